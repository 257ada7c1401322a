/-
  NARROWER THAN 'FOR EVERY INPUT', by the rows' own cells (each row's printed sentence says how): ImageNames: laid · ImageTells: laid · ImageReads: laid · ImageOne: laid · ImageFirst: laid.
  DERIVED. THE GIVEN ROWS OF THIS SEAT. 5 by the template 'for every input the law returns true; each argument reads behind the call as it read before'; 0 by the template 'total and deterministic' (their statements: YtlhnlcbcikbokaaGreatDoorTotals.lean).
  GIVEN WITH THE SEED: the statements are not yours to turn. If you find one false, say at which input.
  Laid BY PROGRAM, IN A SANDBOX (cutbox-rows.mjs): the forced cells as the released guide's own fill.sh prints them over the translation f933719a50bf20a0… (all of the seat's roots in one cut). By AI agents, Wed Nov 11 2026. No macro, syntax, notation, axiom, sorry.
-/
import Derived.Test.YtlhnlcbcikbokaaGreatDoorChecked
import GoSem.Claim
import GoSem.ClaimJoined
import GoSem.ClaimMapViews
import Derived.JoinedTies
import Derived.KernelRfl
namespace Go.Proofs.YtlhnlcbcikbokaaGreatDoor
/- THE CELL 'sum', in the pinned program and in every row, IS THE sha256 OF THE DUMP (.gsa) THAT YtlhnlcbcikbokaaGreatDoorProg.lean LOADS. Nothing in Lean hashes anything: it is a label: what it is worth is what the hold of that sum in a sandbox is worth. -/
noncomputable def Tryz.pinned : Pinned := { name := "ytlhnlcbcikbokaagreatdoor", sum := "f933719a50bf20a0295492ef639a769a6f158fa48573926aa75cd72030b2faf8", checked := Tryz.checked }
namespace Rows
def none {H : Type} : Left H := { results := [], args := [] }

/- WHAT THE LISTED PACKAGE-LEVEL VARIABLES READ AS WHEN THE CALL BEGINS. Each datum BY PROGRAM (the guide's laid-datum.mjs) off the statement by which the dump's own 'gosem.cut.vars' lays the variable. In a bare row this is a premise. The card (YtlhnlcbcikbokaaGreatDoorCards.lean) ties it to the program's text. -/
def laid_wreckage_ops_operations {H : Type} : DataW H := .agg [.agg [.lit (.string []), .agg [.lit (.int .u8 0), .lit (.int .u8 0), .lit (.int .u8 0)]], .agg [.lit (.string [105, 110, 116]), .agg [.lit (.int .u8 2), .lit (.int .u8 5), .lit (.int .u8 0)]], .agg [.lit (.string [116, 101, 120, 116]), .agg [.lit (.int .u8 2), .lit (.int .u8 7), .lit (.int .u8 0)]], .agg [.lit (.string [98, 111, 111, 108]), .agg [.lit (.int .u8 2), .lit (.int .u8 6), .lit (.int .u8 0)]], .agg [.lit (.string [122, 101, 114, 111]), .agg [.lit (.int .u8 2), .lit (.int .u8 0), .lit (.int .u8 0)]], .agg [.lit (.string [99, 111, 112, 121]), .agg [.lit (.int .u8 2), .lit (.int .u8 1), .lit (.int .u8 0)]], .agg [.lit (.string [97, 100, 100]), .agg [.lit (.int .u8 2), .lit (.int .u8 1), .lit (.int .u8 1)]], .agg [.lit (.string [115, 117, 98]), .agg [.lit (.int .u8 2), .lit (.int .u8 1), .lit (.int .u8 1)]], .agg [.lit (.string [109, 117, 108]), .agg [.lit (.int .u8 2), .lit (.int .u8 1), .lit (.int .u8 1)]], .agg [.lit (.string [100, 105, 118]), .agg [.lit (.int .u8 2), .lit (.int .u8 1), .lit (.int .u8 1)]], .agg [.lit (.string [108, 101, 115, 115]), .agg [.lit (.int .u8 2), .lit (.int .u8 1), .lit (.int .u8 1)]], .agg [.lit (.string [115, 97, 109, 101]), .agg [.lit (.int .u8 2), .lit (.int .u8 1), .lit (.int .u8 1)]], .agg [.lit (.string [110, 111, 116]), .agg [.lit (.int .u8 2), .lit (.int .u8 1), .lit (.int .u8 0)]], .agg [.lit (.string [102, 105, 101, 108, 100]), .agg [.lit (.int .u8 2), .lit (.int .u8 1), .lit (.int .u8 8)]], .agg [.lit (.string [112, 117, 116]), .agg [.lit (.int .u8 1), .lit (.int .u8 8), .lit (.int .u8 1)]], .agg [.lit (.string [110, 101, 119]), .agg [.lit (.int .u8 2), .lit (.int .u8 0), .lit (.int .u8 0)]], .agg [.lit (.string [108, 111, 97, 100]), .agg [.lit (.int .u8 2), .lit (.int .u8 1), .lit (.int .u8 0)]], .agg [.lit (.string [115, 116, 111, 114, 101]), .agg [.lit (.int .u8 1), .lit (.int .u8 1), .lit (.int .u8 0)]], .agg [.lit (.string [109, 97, 107, 101]), .agg [.lit (.int .u8 2), .lit (.int .u8 1), .lit (.int .u8 0)]], .agg [.lit (.string [97, 116]), .agg [.lit (.int .u8 2), .lit (.int .u8 1), .lit (.int .u8 1)]], .agg [.lit (.string [115, 101, 116]), .agg [.lit (.int .u8 1), .lit (.int .u8 1), .lit (.int .u8 1)]], .agg [.lit (.string [108, 101, 110]), .agg [.lit (.int .u8 2), .lit (.int .u8 1), .lit (.int .u8 0)]], .agg [.lit (.string [106, 117, 109, 112]), .agg [.lit (.int .u8 10), .lit (.int .u8 0), .lit (.int .u8 0)]], .agg [.lit (.string [98, 114, 97, 110, 99, 104]), .agg [.lit (.int .u8 1), .lit (.int .u8 10), .lit (.int .u8 0)]], .agg [.lit (.string [97, 114, 103]), .agg [.lit (.int .u8 1), .lit (.int .u8 0), .lit (.int .u8 0)]], .agg [.lit (.string [99, 97, 108, 108]), .agg [.lit (.int .u8 4), .lit (.int .u8 9), .lit (.int .u8 0)]], .agg [.lit (.string [100, 101, 102, 101, 114]), .agg [.lit (.int .u8 9), .lit (.int .u8 0), .lit (.int .u8 0)]], .agg [.lit (.string [103, 111]), .agg [.lit (.int .u8 9), .lit (.int .u8 0), .lit (.int .u8 0)]], .agg [.lit (.string [112, 97, 110, 105, 99]), .agg [.lit (.int .u8 1), .lit (.int .u8 0), .lit (.int .u8 0)]], .agg [.lit (.string [114, 101, 99, 111, 118, 101, 114]), .agg [.lit (.int .u8 2), .lit (.int .u8 2), .lit (.int .u8 0)]], .agg [.lit (.string [101, 120, 105, 116]), .agg [.lit (.int .u8 0), .lit (.int .u8 0), .lit (.int .u8 0)]], .agg [.lit (.string [121, 105, 101, 108, 100]), .agg [.lit (.int .u8 0), .lit (.int .u8 0), .lit (.int .u8 0)]], .agg [.lit (.string [98, 108, 111, 99, 107]), .agg [.lit (.int .u8 1), .lit (.int .u8 0), .lit (.int .u8 0)]], .agg [.lit (.string [119, 97, 107, 101]), .agg [.lit (.int .u8 2), .lit (.int .u8 1), .lit (.int .u8 0)]], .agg [.lit (.string [114, 101, 116, 117, 114, 110]), .agg [.lit (.int .u8 3), .lit (.int .u8 0), .lit (.int .u8 0)]]]

/-- 'wreckagelaw09.ImageNames': WHATEVER THE INPUT: true; the input reads as it did. -/
def imageNamesSpec : ChangeSpec := { name := "imageNames", fn := fun _ => fun
  | [] => { results := [.lit (.bool true)], args := [] }
  | _ => none }
def imageNamesRow : OpenClaim := { program := "ytlhnlcbcikbokaagreatdoor", sum := "f933719a50bf20a0295492ef639a769a6f158fa48573926aa75cd72030b2faf8", func := "wreckage/wreckagelaw09.ImageNames", spec := "imageNames", unfollowed := true, recurses := true, named := ["wreckage/ops.operations"], apart := false, laid := [("wreckage/ops.operations", laid_wreckage_ops_operations)] }
def ImageNamesSaid : Prop := imageNamesRow.holds Tryz.pinned (OpenSpec.ofChange imageNamesSpec)

/-- ITS FALSE NEIGHBOUR: 'it returns false'. Refute it at one input. -/
def imageNamesWrong : ChangeSpec := { name := "imageNames", fn := fun _ => fun
  | [] => { results := [.lit (.bool false)], args := [] }
  | _ => none }
def ImageNamesWrongFalsely : Prop := imageNamesRow.holds Tryz.pinned (OpenSpec.ofChange imageNamesWrong)

/-- 'wreckagelaw09.ImageTells': WHATEVER THE INPUT: true; the input reads as it did. -/
def imageTellsSpec : ChangeSpec := { name := "imageTells", fn := fun _ => fun
  | [d1, d2, d3, d4] => { results := [.lit (.bool true)], args := [d1, d2, d3, d4] }
  | _ => none }
def imageTellsRow : OpenClaim := { program := "ytlhnlcbcikbokaagreatdoor", sum := "f933719a50bf20a0295492ef639a769a6f158fa48573926aa75cd72030b2faf8", func := "wreckage/wreckagelaw09.ImageTells", spec := "imageTells", unfollowed := true, recurses := true, named := ["wreckage/ops.operations"], apart := false, laid := [("wreckage/ops.operations", laid_wreckage_ops_operations)] }
def ImageTellsSaid : Prop := imageTellsRow.holds Tryz.pinned (OpenSpec.ofChange imageTellsSpec)

/-- ITS FALSE NEIGHBOUR: 'it returns false'. Refute it at one input. -/
def imageTellsWrong : ChangeSpec := { name := "imageTells", fn := fun _ => fun
  | [d1, d2, d3, d4] => { results := [.lit (.bool false)], args := [d1, d2, d3, d4] }
  | _ => none }
def ImageTellsWrongFalsely : Prop := imageTellsRow.holds Tryz.pinned (OpenSpec.ofChange imageTellsWrong)

/-- 'wreckagelaw09.ImageReads': WHATEVER THE INPUT: true; the input reads as it did. -/
def imageReadsSpec : ChangeSpec := { name := "imageReads", fn := fun _ => fun
  | [d] => { results := [.lit (.bool true)], args := [d] }
  | _ => none }
def imageReadsRow : OpenClaim := { program := "ytlhnlcbcikbokaagreatdoor", sum := "f933719a50bf20a0295492ef639a769a6f158fa48573926aa75cd72030b2faf8", func := "wreckage/wreckagelaw09.ImageReads", spec := "imageReads", unfollowed := true, recurses := true, named := ["wreckage/ops.operations"], apart := false, laid := [("wreckage/ops.operations", laid_wreckage_ops_operations)] }
def ImageReadsSaid : Prop := imageReadsRow.holds Tryz.pinned (OpenSpec.ofChange imageReadsSpec)

/-- ITS FALSE NEIGHBOUR: 'it returns false'. Refute it at one input. -/
def imageReadsWrong : ChangeSpec := { name := "imageReads", fn := fun _ => fun
  | [d] => { results := [.lit (.bool false)], args := [d] }
  | _ => none }
def ImageReadsWrongFalsely : Prop := imageReadsRow.holds Tryz.pinned (OpenSpec.ofChange imageReadsWrong)

/-- 'wreckagelaw09.ImageOne': WHATEVER THE INPUT: true; the input reads as it did. -/
def imageOneSpec : ChangeSpec := { name := "imageOne", fn := fun _ => fun
  | [d1, d2] => { results := [.lit (.bool true)], args := [d1, d2] }
  | _ => none }
def imageOneRow : OpenClaim := { program := "ytlhnlcbcikbokaagreatdoor", sum := "f933719a50bf20a0295492ef639a769a6f158fa48573926aa75cd72030b2faf8", func := "wreckage/wreckagelaw09.ImageOne", spec := "imageOne", unfollowed := true, recurses := true, named := ["wreckage/ops.operations"], apart := false, laid := [("wreckage/ops.operations", laid_wreckage_ops_operations)] }
def ImageOneSaid : Prop := imageOneRow.holds Tryz.pinned (OpenSpec.ofChange imageOneSpec)

/-- ITS FALSE NEIGHBOUR: 'it returns false'. Refute it at one input. -/
def imageOneWrong : ChangeSpec := { name := "imageOne", fn := fun _ => fun
  | [d1, d2] => { results := [.lit (.bool false)], args := [d1, d2] }
  | _ => none }
def ImageOneWrongFalsely : Prop := imageOneRow.holds Tryz.pinned (OpenSpec.ofChange imageOneWrong)

/-- 'wreckagelaw09.ImageFirst': WHATEVER THE INPUT: true; the input reads as it did. -/
def imageFirstSpec : ChangeSpec := { name := "imageFirst", fn := fun _ => fun
  | [d1, d2, d3, d4] => { results := [.lit (.bool true)], args := [d1, d2, d3, d4] }
  | _ => none }
def imageFirstRow : OpenClaim := { program := "ytlhnlcbcikbokaagreatdoor", sum := "f933719a50bf20a0295492ef639a769a6f158fa48573926aa75cd72030b2faf8", func := "wreckage/wreckagelaw09.ImageFirst", spec := "imageFirst", unfollowed := true, recurses := true, named := ["wreckage/ops.operations"], apart := false, laid := [("wreckage/ops.operations", laid_wreckage_ops_operations)] }
def ImageFirstSaid : Prop := imageFirstRow.holds Tryz.pinned (OpenSpec.ofChange imageFirstSpec)

/-- ITS FALSE NEIGHBOUR: 'it returns false'. Refute it at one input. -/
def imageFirstWrong : ChangeSpec := { name := "imageFirst", fn := fun _ => fun
  | [d1, d2, d3, d4] => { results := [.lit (.bool false)], args := [d1, d2, d3, d4] }
  | _ => none }
def ImageFirstWrongFalsely : Prop := imageFirstRow.holds Tryz.pinned (OpenSpec.ofChange imageFirstWrong)

/- THE SECOND FORM. 'bulk': how many values and letters a reading holds, each counted each time it is reached (what is shared counts as often as it is met; a slice's spare places count too). A statement '..UptoSaid' is the law's where the arguments, and the package variables that the reading takes, are together of bulk at most 1048576: NARROWER than '..Said'. Prove '..Said' where nothing that the law and all that it calls make is longer than what came in: it says more and counts as full. Else prove '..UptoSaid'. A law counts once. -/
mutual
def uptoBulk {H : Type} : DataW H → Nat
  | .lit (.string bytes) => bytes.length + 1
  | .lit _ => 1
  | .nil => 1
  | .ptr d => uptoBulk d + 1
  | .slice elems spare => uptoBulkAll elems + uptoBulkAll spare + 1
  | .agg parts => uptoBulkAll parts + 1
  | .iface _ d => uptoBulk d + 1
  | .map entries => uptoBulkEntries entries + 1
  | .held _ => 1
def uptoBulkAll {H : Type} : List (DataW H) → Nat
  | [] => 0
  | d :: r => uptoBulk d + uptoBulkAll r
def uptoBulkEntries {H : Type} : List (Lit × DataW H) → Nat
  | [] => 0
  | x :: r => uptoBulkEntry x + uptoBulkEntries r
def uptoBulkEntry {H : Type} : Lit × DataW H → Nat
  | (.string bytes, d) => bytes.length + uptoBulk d + 1
  | (_, d) => uptoBulk d + 1
 end
def uptoSmall : (H : Type) → List (DataW H) → Bool := fun _ ds => decide (uptoBulkAll ds ≤ 1048576)
def OpenSpec.upto (s : _root_.Go.ChangeSpec) : _root_.Go.OpenSpec := { _root_.Go.OpenSpec.ofChange s with cond := some uptoSmall }

/-- 'wreckagelaw09.ImageNames', WHERE WHAT IT READS IS OF BULK AT MOST 1048576: true; the input reads as it did. -/
def imageNamesUptoRow : OpenClaim := { program := "ytlhnlcbcikbokaagreatdoor", sum := "f933719a50bf20a0295492ef639a769a6f158fa48573926aa75cd72030b2faf8", func := "wreckage/wreckagelaw09.ImageNames", spec := "imageNames", unfollowed := true, recurses := true, named := ["wreckage/ops.operations"], apart := false, laid := [("wreckage/ops.operations", laid_wreckage_ops_operations)], narrowed := true }
def ImageNamesUptoSaid : Prop := imageNamesUptoRow.holds Tryz.pinned (OpenSpec.upto imageNamesSpec)

/-- 'wreckagelaw09.ImageTells', WHERE WHAT IT READS IS OF BULK AT MOST 1048576: true; the input reads as it did. -/
def imageTellsUptoRow : OpenClaim := { program := "ytlhnlcbcikbokaagreatdoor", sum := "f933719a50bf20a0295492ef639a769a6f158fa48573926aa75cd72030b2faf8", func := "wreckage/wreckagelaw09.ImageTells", spec := "imageTells", unfollowed := true, recurses := true, named := ["wreckage/ops.operations"], apart := false, laid := [("wreckage/ops.operations", laid_wreckage_ops_operations)], narrowed := true }
def ImageTellsUptoSaid : Prop := imageTellsUptoRow.holds Tryz.pinned (OpenSpec.upto imageTellsSpec)

/-- 'wreckagelaw09.ImageReads', WHERE WHAT IT READS IS OF BULK AT MOST 1048576: true; the input reads as it did. -/
def imageReadsUptoRow : OpenClaim := { program := "ytlhnlcbcikbokaagreatdoor", sum := "f933719a50bf20a0295492ef639a769a6f158fa48573926aa75cd72030b2faf8", func := "wreckage/wreckagelaw09.ImageReads", spec := "imageReads", unfollowed := true, recurses := true, named := ["wreckage/ops.operations"], apart := false, laid := [("wreckage/ops.operations", laid_wreckage_ops_operations)], narrowed := true }
def ImageReadsUptoSaid : Prop := imageReadsUptoRow.holds Tryz.pinned (OpenSpec.upto imageReadsSpec)

/-- 'wreckagelaw09.ImageOne', WHERE WHAT IT READS IS OF BULK AT MOST 1048576: true; the input reads as it did. -/
def imageOneUptoRow : OpenClaim := { program := "ytlhnlcbcikbokaagreatdoor", sum := "f933719a50bf20a0295492ef639a769a6f158fa48573926aa75cd72030b2faf8", func := "wreckage/wreckagelaw09.ImageOne", spec := "imageOne", unfollowed := true, recurses := true, named := ["wreckage/ops.operations"], apart := false, laid := [("wreckage/ops.operations", laid_wreckage_ops_operations)], narrowed := true }
def ImageOneUptoSaid : Prop := imageOneUptoRow.holds Tryz.pinned (OpenSpec.upto imageOneSpec)

/-- 'wreckagelaw09.ImageFirst', WHERE WHAT IT READS IS OF BULK AT MOST 1048576: true; the input reads as it did. -/
def imageFirstUptoRow : OpenClaim := { program := "ytlhnlcbcikbokaagreatdoor", sum := "f933719a50bf20a0295492ef639a769a6f158fa48573926aa75cd72030b2faf8", func := "wreckage/wreckagelaw09.ImageFirst", spec := "imageFirst", unfollowed := true, recurses := true, named := ["wreckage/ops.operations"], apart := false, laid := [("wreckage/ops.operations", laid_wreckage_ops_operations)], narrowed := true }
def ImageFirstUptoSaid : Prop := imageFirstUptoRow.holds Tryz.pinned (OpenSpec.upto imageFirstSpec)

end Rows
end Go.Proofs.YtlhnlcbcikbokaaGreatDoor
