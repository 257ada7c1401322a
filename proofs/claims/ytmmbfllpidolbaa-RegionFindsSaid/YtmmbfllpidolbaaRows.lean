/-
  No cell of these rows narrows 'for every input' (looked for: loops, veiled, ifaces, maps, wideKeys, modest, calm, conditions, laid).
  DERIVED. THE GIVEN ROWS OF THIS SEAT. 7 by the template 'for every input the law returns true; each argument reads behind the call as it read before'; 0 by the template 'total and deterministic' (their statements: YtmmbfllpidolbaaTotals.lean).
  GIVEN WITH THE SEED: the statements are not yours to turn. If you find one false, say at which input.
  Laid BY PROGRAM, IN A SANDBOX (cutbox-rows.mjs): the forced cells as the released guide's own fill.sh prints them over the translation 777564c9f0e2a537… (all of the seat's roots in one cut). By AI agents, Wed Nov 11 2026. No macro, syntax, notation, axiom, sorry.
-/
import Derived.Test.YtmmbfllpidolbaaChecked
import GoSem.Claim
import GoSem.ClaimJoined
import GoSem.ClaimMapViews
import Derived.JoinedTies
import Derived.KernelRfl
namespace Go.Proofs.Ytmmbfllpidolbaa
/- THE CELL 'sum', in the pinned program and in every row, IS THE sha256 OF THE DUMP (.gsa) THAT YtmmbfllpidolbaaProg.lean LOADS. Nothing in Lean hashes anything: it is a label: what it is worth is what the hold of that sum in a sandbox is worth. -/
noncomputable def Try.pinned : Pinned := { name := "ytmmbfllpidolbaa", sum := "777564c9f0e2a5374e2bf136016869fd298d0430900c1013b9c84eafedac4937", checked := Try.checked }
namespace Rows
def none {H : Type} : Left H := { results := [], args := [] }

/-- 'wreckagelaw13.RegionWords': WHATEVER THE INPUT: true; the input reads as it did. -/
def regionWordsSpec : ChangeSpec := { name := "regionWords", fn := fun _ => fun
  | [d1, d2, d3, d4, d5, d6] => { results := [.lit (.bool true)], args := [d1, d2, d3, d4, d5, d6] }
  | _ => none }
def regionWordsRow : OpenClaim := { program := "ytmmbfllpidolbaa", sum := "777564c9f0e2a5374e2bf136016869fd298d0430900c1013b9c84eafedac4937", func := "wreckage/wreckagelaw13.RegionWords", spec := "regionWords", apart := false }
def RegionWordsSaid : Prop := regionWordsRow.holds Try.pinned (OpenSpec.ofChange regionWordsSpec)

/-- ITS FALSE NEIGHBOUR: 'it returns false'. Refute it at one input. -/
def regionWordsWrong : ChangeSpec := { name := "regionWords", fn := fun _ => fun
  | [d1, d2, d3, d4, d5, d6] => { results := [.lit (.bool false)], args := [d1, d2, d3, d4, d5, d6] }
  | _ => none }
def RegionWordsWrongFalsely : Prop := regionWordsRow.holds Try.pinned (OpenSpec.ofChange regionWordsWrong)

/-- 'wreckagelaw13.RegionBytes': WHATEVER THE INPUT: true; the input reads as it did. -/
def regionBytesSpec : ChangeSpec := { name := "regionBytes", fn := fun _ => fun
  | [d1, d2, d3, d4] => { results := [.lit (.bool true)], args := [d1, d2, d3, d4] }
  | _ => none }
def regionBytesRow : OpenClaim := { program := "ytmmbfllpidolbaa", sum := "777564c9f0e2a5374e2bf136016869fd298d0430900c1013b9c84eafedac4937", func := "wreckage/wreckagelaw13.RegionBytes", spec := "regionBytes", apart := false }
def RegionBytesSaid : Prop := regionBytesRow.holds Try.pinned (OpenSpec.ofChange regionBytesSpec)

/-- ITS FALSE NEIGHBOUR: 'it returns false'. Refute it at one input. -/
def regionBytesWrong : ChangeSpec := { name := "regionBytes", fn := fun _ => fun
  | [d1, d2, d3, d4] => { results := [.lit (.bool false)], args := [d1, d2, d3, d4] }
  | _ => none }
def RegionBytesWrongFalsely : Prop := regionBytesRow.holds Try.pinned (OpenSpec.ofChange regionBytesWrong)

/-- 'wreckagelaw13.RegionFinds': WHATEVER THE INPUT: true; the input reads as it did. -/
def regionFindsSpec : ChangeSpec := { name := "regionFinds", fn := fun _ => fun
  | [d1, d2, d3] => { results := [.lit (.bool true)], args := [d1, d2, d3] }
  | _ => none }
def regionFindsRow : OpenClaim := { program := "ytmmbfllpidolbaa", sum := "777564c9f0e2a5374e2bf136016869fd298d0430900c1013b9c84eafedac4937", func := "wreckage/wreckagelaw13.RegionFinds", spec := "regionFinds", apart := false }
def RegionFindsSaid : Prop := regionFindsRow.holds Try.pinned (OpenSpec.ofChange regionFindsSpec)

/-- ITS FALSE NEIGHBOUR: 'it returns false'. Refute it at one input. -/
def regionFindsWrong : ChangeSpec := { name := "regionFinds", fn := fun _ => fun
  | [d1, d2, d3] => { results := [.lit (.bool false)], args := [d1, d2, d3] }
  | _ => none }
def RegionFindsWrongFalsely : Prop := regionFindsRow.holds Try.pinned (OpenSpec.ofChange regionFindsWrong)

/-- 'wreckagelaw13.RegionNames': WHATEVER THE INPUT: true; the input reads as it did. -/
def regionNamesSpec : ChangeSpec := { name := "regionNames", fn := fun _ => fun
  | [] => { results := [.lit (.bool true)], args := [] }
  | _ => none }
def regionNamesRow : OpenClaim := { program := "ytmmbfllpidolbaa", sum := "777564c9f0e2a5374e2bf136016869fd298d0430900c1013b9c84eafedac4937", func := "wreckage/wreckagelaw13.RegionNames", spec := "regionNames", apart := false }
def RegionNamesSaid : Prop := regionNamesRow.holds Try.pinned (OpenSpec.ofChange regionNamesSpec)

/-- ITS FALSE NEIGHBOUR: 'it returns false'. Refute it at one input. -/
def regionNamesWrong : ChangeSpec := { name := "regionNames", fn := fun _ => fun
  | [] => { results := [.lit (.bool false)], args := [] }
  | _ => none }
def RegionNamesWrongFalsely : Prop := regionNamesRow.holds Try.pinned (OpenSpec.ofChange regionNamesWrong)

/-- 'wreckagelaw13.RegionLast': WHATEVER THE INPUT: true; the input reads as it did. -/
def regionLastSpec : ChangeSpec := { name := "regionLast", fn := fun _ => fun
  | [d1, d2, d3, d4, d5, d6] => { results := [.lit (.bool true)], args := [d1, d2, d3, d4, d5, d6] }
  | _ => none }
def regionLastRow : OpenClaim := { program := "ytmmbfllpidolbaa", sum := "777564c9f0e2a5374e2bf136016869fd298d0430900c1013b9c84eafedac4937", func := "wreckage/wreckagelaw13.RegionLast", spec := "regionLast", apart := false }
def RegionLastSaid : Prop := regionLastRow.holds Try.pinned (OpenSpec.ofChange regionLastSpec)

/-- ITS FALSE NEIGHBOUR: 'it returns false'. Refute it at one input. -/
def regionLastWrong : ChangeSpec := { name := "regionLast", fn := fun _ => fun
  | [d1, d2, d3, d4, d5, d6] => { results := [.lit (.bool false)], args := [d1, d2, d3, d4, d5, d6] }
  | _ => none }
def RegionLastWrongFalsely : Prop := regionLastRow.holds Try.pinned (OpenSpec.ofChange regionLastWrong)

/-- 'wreckagelaw13.RegionOutside': WHATEVER THE INPUT: true; the input reads as it did. -/
def regionOutsideSpec : ChangeSpec := { name := "regionOutside", fn := fun _ => fun
  | [d1, d2, d3] => { results := [.lit (.bool true)], args := [d1, d2, d3] }
  | _ => none }
def regionOutsideRow : OpenClaim := { program := "ytmmbfllpidolbaa", sum := "777564c9f0e2a5374e2bf136016869fd298d0430900c1013b9c84eafedac4937", func := "wreckage/wreckagelaw13.RegionOutside", spec := "regionOutside", apart := false }
def RegionOutsideSaid : Prop := regionOutsideRow.holds Try.pinned (OpenSpec.ofChange regionOutsideSpec)

/-- ITS FALSE NEIGHBOUR: 'it returns false'. Refute it at one input. -/
def regionOutsideWrong : ChangeSpec := { name := "regionOutside", fn := fun _ => fun
  | [d1, d2, d3] => { results := [.lit (.bool false)], args := [d1, d2, d3] }
  | _ => none }
def RegionOutsideWrongFalsely : Prop := regionOutsideRow.holds Try.pinned (OpenSpec.ofChange regionOutsideWrong)

/-- 'wreckagelaw13.RegionSizes': WHATEVER THE INPUT: true; the input reads as it did. -/
def regionSizesSpec : ChangeSpec := { name := "regionSizes", fn := fun _ => fun
  | [d1, d2, d3, d4] => { results := [.lit (.bool true)], args := [d1, d2, d3, d4] }
  | _ => none }
def regionSizesRow : OpenClaim := { program := "ytmmbfllpidolbaa", sum := "777564c9f0e2a5374e2bf136016869fd298d0430900c1013b9c84eafedac4937", func := "wreckage/wreckagelaw13.RegionSizes", spec := "regionSizes", apart := false }
def RegionSizesSaid : Prop := regionSizesRow.holds Try.pinned (OpenSpec.ofChange regionSizesSpec)

/-- ITS FALSE NEIGHBOUR: 'it returns false'. Refute it at one input. -/
def regionSizesWrong : ChangeSpec := { name := "regionSizes", fn := fun _ => fun
  | [d1, d2, d3, d4] => { results := [.lit (.bool false)], args := [d1, d2, d3, d4] }
  | _ => none }
def RegionSizesWrongFalsely : Prop := regionSizesRow.holds Try.pinned (OpenSpec.ofChange regionSizesWrong)

/- THE SECOND FORM. 'bulk': how many values and letters a reading holds, each counted each time it is reached (what is shared counts as often as it is met; a slice's spare places count too). A statement '..UptoSaid' is the law's where the arguments, and the package variables that the reading takes, are together of bulk at most 1048576: NARROWER than '..Said'. Prove '..Said' where nothing that the law and all that it calls make is longer than what came in: it says more and counts as full. Else prove '..UptoSaid'. A law counts once. -/
mutual
def uptoBulk {H : Type} : DataW H → Nat
  | .lit (.string bytes) => bytes.length + 1
  | .lit _ => 1
  | .nil => 1
  | .ptr d => uptoBulk d + 1
  | .slice elems spare => uptoBulkAll elems + uptoBulkAll spare + 1
  | .agg parts => uptoBulkAll parts + 1
  | .iface _ d => uptoBulk d + 1
  | .map entries => uptoBulkEntries entries + 1
  | .held _ => 1
def uptoBulkAll {H : Type} : List (DataW H) → Nat
  | [] => 0
  | d :: r => uptoBulk d + uptoBulkAll r
def uptoBulkEntries {H : Type} : List (Lit × DataW H) → Nat
  | [] => 0
  | x :: r => uptoBulkEntry x + uptoBulkEntries r
def uptoBulkEntry {H : Type} : Lit × DataW H → Nat
  | (.string bytes, d) => bytes.length + uptoBulk d + 1
  | (_, d) => uptoBulk d + 1
 end
def uptoSmall : (H : Type) → List (DataW H) → Bool := fun _ ds => decide (uptoBulkAll ds ≤ 1048576)
def OpenSpec.upto (s : _root_.Go.ChangeSpec) : _root_.Go.OpenSpec := { _root_.Go.OpenSpec.ofChange s with cond := some uptoSmall }

/-- 'wreckagelaw13.RegionWords', WHERE WHAT IT READS IS OF BULK AT MOST 1048576: true; the input reads as it did. -/
def regionWordsUptoRow : OpenClaim := { program := "ytmmbfllpidolbaa", sum := "777564c9f0e2a5374e2bf136016869fd298d0430900c1013b9c84eafedac4937", func := "wreckage/wreckagelaw13.RegionWords", spec := "regionWords", apart := false, narrowed := true }
def RegionWordsUptoSaid : Prop := regionWordsUptoRow.holds Try.pinned (OpenSpec.upto regionWordsSpec)

/-- 'wreckagelaw13.RegionBytes', WHERE WHAT IT READS IS OF BULK AT MOST 1048576: true; the input reads as it did. -/
def regionBytesUptoRow : OpenClaim := { program := "ytmmbfllpidolbaa", sum := "777564c9f0e2a5374e2bf136016869fd298d0430900c1013b9c84eafedac4937", func := "wreckage/wreckagelaw13.RegionBytes", spec := "regionBytes", apart := false, narrowed := true }
def RegionBytesUptoSaid : Prop := regionBytesUptoRow.holds Try.pinned (OpenSpec.upto regionBytesSpec)

/-- 'wreckagelaw13.RegionFinds', WHERE WHAT IT READS IS OF BULK AT MOST 1048576: true; the input reads as it did. -/
def regionFindsUptoRow : OpenClaim := { program := "ytmmbfllpidolbaa", sum := "777564c9f0e2a5374e2bf136016869fd298d0430900c1013b9c84eafedac4937", func := "wreckage/wreckagelaw13.RegionFinds", spec := "regionFinds", apart := false, narrowed := true }
def RegionFindsUptoSaid : Prop := regionFindsUptoRow.holds Try.pinned (OpenSpec.upto regionFindsSpec)

/-- 'wreckagelaw13.RegionNames', WHERE WHAT IT READS IS OF BULK AT MOST 1048576: true; the input reads as it did. -/
def regionNamesUptoRow : OpenClaim := { program := "ytmmbfllpidolbaa", sum := "777564c9f0e2a5374e2bf136016869fd298d0430900c1013b9c84eafedac4937", func := "wreckage/wreckagelaw13.RegionNames", spec := "regionNames", apart := false, narrowed := true }
def RegionNamesUptoSaid : Prop := regionNamesUptoRow.holds Try.pinned (OpenSpec.upto regionNamesSpec)

/-- 'wreckagelaw13.RegionLast', WHERE WHAT IT READS IS OF BULK AT MOST 1048576: true; the input reads as it did. -/
def regionLastUptoRow : OpenClaim := { program := "ytmmbfllpidolbaa", sum := "777564c9f0e2a5374e2bf136016869fd298d0430900c1013b9c84eafedac4937", func := "wreckage/wreckagelaw13.RegionLast", spec := "regionLast", apart := false, narrowed := true }
def RegionLastUptoSaid : Prop := regionLastUptoRow.holds Try.pinned (OpenSpec.upto regionLastSpec)

/-- 'wreckagelaw13.RegionOutside', WHERE WHAT IT READS IS OF BULK AT MOST 1048576: true; the input reads as it did. -/
def regionOutsideUptoRow : OpenClaim := { program := "ytmmbfllpidolbaa", sum := "777564c9f0e2a5374e2bf136016869fd298d0430900c1013b9c84eafedac4937", func := "wreckage/wreckagelaw13.RegionOutside", spec := "regionOutside", apart := false, narrowed := true }
def RegionOutsideUptoSaid : Prop := regionOutsideUptoRow.holds Try.pinned (OpenSpec.upto regionOutsideSpec)

/-- 'wreckagelaw13.RegionSizes', WHERE WHAT IT READS IS OF BULK AT MOST 1048576: true; the input reads as it did. -/
def regionSizesUptoRow : OpenClaim := { program := "ytmmbfllpidolbaa", sum := "777564c9f0e2a5374e2bf136016869fd298d0430900c1013b9c84eafedac4937", func := "wreckage/wreckagelaw13.RegionSizes", spec := "regionSizes", apart := false, narrowed := true }
def RegionSizesUptoSaid : Prop := regionSizesUptoRow.holds Try.pinned (OpenSpec.upto regionSizesSpec)

end Rows
end Go.Proofs.Ytmmbfllpidolbaa
