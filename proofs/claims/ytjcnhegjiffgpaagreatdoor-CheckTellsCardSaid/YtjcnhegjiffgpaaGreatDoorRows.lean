/-
  NARROWER THAN 'FOR EVERY INPUT', by the rows' own cells (each row's printed sentence says how): CheckNames: laid · CheckTells: laid · CheckMore: laid.
  DERIVED. THE GIVEN ROWS OF THIS SEAT. 3 by the template 'for every input the law returns true; each argument reads behind the call as it read before'; 0 by the template 'total and deterministic' (their statements: YtjcnhegjiffgpaaGreatDoorTotals.lean).
  GIVEN WITH THE SEED: the statements are not yours to turn. If you find one false, say at which input.
  Laid BY PROGRAM, IN A SANDBOX (cutbox-rows.mjs): the forced cells as the released guide's own fill.sh prints them over the translation c6523b366f965841… (all of the seat's roots in one cut). By AI agents, Wed Nov 11 2026. No macro, syntax, notation, axiom, sorry.
-/
import Derived.Test.YtjcnhegjiffgpaaGreatDoorChecked
import GoSem.Claim
import GoSem.ClaimJoined
import GoSem.ClaimMapViews
import Derived.JoinedTies
import Derived.KernelRfl
namespace Go.Proofs.YtjcnhegjiffgpaaGreatDoor
/- THE CELL 'sum', in the pinned program and in every row, IS THE sha256 OF THE DUMP (.gsa) THAT YtjcnhegjiffgpaaGreatDoorProg.lean LOADS. Nothing in Lean hashes anything: it is a label: what it is worth is what the hold of that sum in a sandbox is worth. -/
noncomputable def Tryz.pinned : Pinned := { name := "ytjcnhegjiffgpaagreatdoor", sum := "c6523b366f96584110dbb0437bc5e15198b10ae41e1330a16c133b7eb02b8d08", checked := Tryz.checked }
namespace Rows
def none {H : Type} : Left H := { results := [], args := [] }

/- WHAT THE LISTED PACKAGE-LEVEL VARIABLES READ AS WHEN THE CALL BEGINS. Each datum BY PROGRAM (the guide's laid-datum.mjs) off the statement by which the dump's own 'gosem.cut.vars' lays the variable. In a bare row this is a premise. The card (YtjcnhegjiffgpaaGreatDoorCards.lean) ties it to the program's text. -/
def laid_wreckage_ops_operations {H : Type} : DataW H := .agg [.agg [.lit (.string []), .agg [.lit (.int .u8 0), .lit (.int .u8 0), .lit (.int .u8 0)]], .agg [.lit (.string [105, 110, 116]), .agg [.lit (.int .u8 2), .lit (.int .u8 5), .lit (.int .u8 0)]], .agg [.lit (.string [116, 101, 120, 116]), .agg [.lit (.int .u8 2), .lit (.int .u8 7), .lit (.int .u8 0)]], .agg [.lit (.string [98, 111, 111, 108]), .agg [.lit (.int .u8 2), .lit (.int .u8 6), .lit (.int .u8 0)]], .agg [.lit (.string [122, 101, 114, 111]), .agg [.lit (.int .u8 2), .lit (.int .u8 0), .lit (.int .u8 0)]], .agg [.lit (.string [99, 111, 112, 121]), .agg [.lit (.int .u8 2), .lit (.int .u8 1), .lit (.int .u8 0)]], .agg [.lit (.string [97, 100, 100]), .agg [.lit (.int .u8 2), .lit (.int .u8 1), .lit (.int .u8 1)]], .agg [.lit (.string [115, 117, 98]), .agg [.lit (.int .u8 2), .lit (.int .u8 1), .lit (.int .u8 1)]], .agg [.lit (.string [109, 117, 108]), .agg [.lit (.int .u8 2), .lit (.int .u8 1), .lit (.int .u8 1)]], .agg [.lit (.string [100, 105, 118]), .agg [.lit (.int .u8 2), .lit (.int .u8 1), .lit (.int .u8 1)]], .agg [.lit (.string [108, 101, 115, 115]), .agg [.lit (.int .u8 2), .lit (.int .u8 1), .lit (.int .u8 1)]], .agg [.lit (.string [115, 97, 109, 101]), .agg [.lit (.int .u8 2), .lit (.int .u8 1), .lit (.int .u8 1)]], .agg [.lit (.string [110, 111, 116]), .agg [.lit (.int .u8 2), .lit (.int .u8 1), .lit (.int .u8 0)]], .agg [.lit (.string [102, 105, 101, 108, 100]), .agg [.lit (.int .u8 2), .lit (.int .u8 1), .lit (.int .u8 8)]], .agg [.lit (.string [112, 117, 116]), .agg [.lit (.int .u8 1), .lit (.int .u8 8), .lit (.int .u8 1)]], .agg [.lit (.string [110, 101, 119]), .agg [.lit (.int .u8 2), .lit (.int .u8 0), .lit (.int .u8 0)]], .agg [.lit (.string [108, 111, 97, 100]), .agg [.lit (.int .u8 2), .lit (.int .u8 1), .lit (.int .u8 0)]], .agg [.lit (.string [115, 116, 111, 114, 101]), .agg [.lit (.int .u8 1), .lit (.int .u8 1), .lit (.int .u8 0)]], .agg [.lit (.string [109, 97, 107, 101]), .agg [.lit (.int .u8 2), .lit (.int .u8 1), .lit (.int .u8 0)]], .agg [.lit (.string [97, 116]), .agg [.lit (.int .u8 2), .lit (.int .u8 1), .lit (.int .u8 1)]], .agg [.lit (.string [115, 101, 116]), .agg [.lit (.int .u8 1), .lit (.int .u8 1), .lit (.int .u8 1)]], .agg [.lit (.string [108, 101, 110]), .agg [.lit (.int .u8 2), .lit (.int .u8 1), .lit (.int .u8 0)]], .agg [.lit (.string [106, 117, 109, 112]), .agg [.lit (.int .u8 10), .lit (.int .u8 0), .lit (.int .u8 0)]], .agg [.lit (.string [98, 114, 97, 110, 99, 104]), .agg [.lit (.int .u8 1), .lit (.int .u8 10), .lit (.int .u8 0)]], .agg [.lit (.string [97, 114, 103]), .agg [.lit (.int .u8 1), .lit (.int .u8 0), .lit (.int .u8 0)]], .agg [.lit (.string [99, 97, 108, 108]), .agg [.lit (.int .u8 4), .lit (.int .u8 9), .lit (.int .u8 0)]], .agg [.lit (.string [100, 101, 102, 101, 114]), .agg [.lit (.int .u8 9), .lit (.int .u8 0), .lit (.int .u8 0)]], .agg [.lit (.string [103, 111]), .agg [.lit (.int .u8 9), .lit (.int .u8 0), .lit (.int .u8 0)]], .agg [.lit (.string [112, 97, 110, 105, 99]), .agg [.lit (.int .u8 1), .lit (.int .u8 0), .lit (.int .u8 0)]], .agg [.lit (.string [114, 101, 99, 111, 118, 101, 114]), .agg [.lit (.int .u8 2), .lit (.int .u8 2), .lit (.int .u8 0)]], .agg [.lit (.string [101, 120, 105, 116]), .agg [.lit (.int .u8 0), .lit (.int .u8 0), .lit (.int .u8 0)]], .agg [.lit (.string [121, 105, 101, 108, 100]), .agg [.lit (.int .u8 0), .lit (.int .u8 0), .lit (.int .u8 0)]], .agg [.lit (.string [98, 108, 111, 99, 107]), .agg [.lit (.int .u8 1), .lit (.int .u8 0), .lit (.int .u8 0)]], .agg [.lit (.string [119, 97, 107, 101]), .agg [.lit (.int .u8 2), .lit (.int .u8 1), .lit (.int .u8 0)]], .agg [.lit (.string [114, 101, 116, 117, 114, 110]), .agg [.lit (.int .u8 3), .lit (.int .u8 0), .lit (.int .u8 0)]]]

/-- 'wreckagelaw10.CheckNames': WHATEVER THE INPUT: true; the input reads as it did. -/
def checkNamesSpec : ChangeSpec := { name := "checkNames", fn := fun _ => fun
  | [] => { results := [.lit (.bool true)], args := [] }
  | _ => none }
def checkNamesRow : OpenClaim := { program := "ytjcnhegjiffgpaagreatdoor", sum := "c6523b366f96584110dbb0437bc5e15198b10ae41e1330a16c133b7eb02b8d08", func := "wreckage/wreckagelaw10.CheckNames", spec := "checkNames", unfollowed := true, recurses := true, named := ["wreckage/ops.operations"], apart := false, laid := [("wreckage/ops.operations", laid_wreckage_ops_operations)] }
def CheckNamesSaid : Prop := checkNamesRow.holds Tryz.pinned (OpenSpec.ofChange checkNamesSpec)

/-- ITS FALSE NEIGHBOUR: 'it returns false'. Refute it at one input. -/
def checkNamesWrong : ChangeSpec := { name := "checkNames", fn := fun _ => fun
  | [] => { results := [.lit (.bool false)], args := [] }
  | _ => none }
def CheckNamesWrongFalsely : Prop := checkNamesRow.holds Tryz.pinned (OpenSpec.ofChange checkNamesWrong)

/-- 'wreckagelaw10.CheckTells': WHATEVER THE INPUT: true; the input reads as it did. -/
def checkTellsSpec : ChangeSpec := { name := "checkTells", fn := fun _ => fun
  | [d1, d2, d3] => { results := [.lit (.bool true)], args := [d1, d2, d3] }
  | _ => none }
def checkTellsRow : OpenClaim := { program := "ytjcnhegjiffgpaagreatdoor", sum := "c6523b366f96584110dbb0437bc5e15198b10ae41e1330a16c133b7eb02b8d08", func := "wreckage/wreckagelaw10.CheckTells", spec := "checkTells", unfollowed := true, recurses := true, named := ["wreckage/ops.operations"], apart := false, laid := [("wreckage/ops.operations", laid_wreckage_ops_operations)] }
def CheckTellsSaid : Prop := checkTellsRow.holds Tryz.pinned (OpenSpec.ofChange checkTellsSpec)

/-- ITS FALSE NEIGHBOUR: 'it returns false'. Refute it at one input. -/
def checkTellsWrong : ChangeSpec := { name := "checkTells", fn := fun _ => fun
  | [d1, d2, d3] => { results := [.lit (.bool false)], args := [d1, d2, d3] }
  | _ => none }
def CheckTellsWrongFalsely : Prop := checkTellsRow.holds Tryz.pinned (OpenSpec.ofChange checkTellsWrong)

/-- 'wreckagelaw10.CheckMore': WHATEVER THE INPUT: true; the input reads as it did. -/
def checkMoreSpec : ChangeSpec := { name := "checkMore", fn := fun _ => fun
  | [d] => { results := [.lit (.bool true)], args := [d] }
  | _ => none }
def checkMoreRow : OpenClaim := { program := "ytjcnhegjiffgpaagreatdoor", sum := "c6523b366f96584110dbb0437bc5e15198b10ae41e1330a16c133b7eb02b8d08", func := "wreckage/wreckagelaw10.CheckMore", spec := "checkMore", unfollowed := true, recurses := true, named := ["wreckage/ops.operations"], apart := false, laid := [("wreckage/ops.operations", laid_wreckage_ops_operations)] }
def CheckMoreSaid : Prop := checkMoreRow.holds Tryz.pinned (OpenSpec.ofChange checkMoreSpec)

/-- ITS FALSE NEIGHBOUR: 'it returns false'. Refute it at one input. -/
def checkMoreWrong : ChangeSpec := { name := "checkMore", fn := fun _ => fun
  | [d] => { results := [.lit (.bool false)], args := [d] }
  | _ => none }
def CheckMoreWrongFalsely : Prop := checkMoreRow.holds Tryz.pinned (OpenSpec.ofChange checkMoreWrong)

/- THE SECOND FORM. 'bulk': how many values and letters a reading holds, each counted each time it is reached (what is shared counts as often as it is met; a slice's spare places count too). A statement '..UptoSaid' is the law's where the arguments, and the package variables that the reading takes, are together of bulk at most 1048576: NARROWER than '..Said'. Prove '..Said' where nothing that the law and all that it calls make is longer than what came in: it says more and counts as full. Else prove '..UptoSaid'. A law counts once. -/
mutual
def uptoBulk {H : Type} : DataW H → Nat
  | .lit (.string bytes) => bytes.length + 1
  | .lit _ => 1
  | .nil => 1
  | .ptr d => uptoBulk d + 1
  | .slice elems spare => uptoBulkAll elems + uptoBulkAll spare + 1
  | .agg parts => uptoBulkAll parts + 1
  | .iface _ d => uptoBulk d + 1
  | .map entries => uptoBulkEntries entries + 1
  | .held _ => 1
def uptoBulkAll {H : Type} : List (DataW H) → Nat
  | [] => 0
  | d :: r => uptoBulk d + uptoBulkAll r
def uptoBulkEntries {H : Type} : List (Lit × DataW H) → Nat
  | [] => 0
  | x :: r => uptoBulkEntry x + uptoBulkEntries r
def uptoBulkEntry {H : Type} : Lit × DataW H → Nat
  | (.string bytes, d) => bytes.length + uptoBulk d + 1
  | (_, d) => uptoBulk d + 1
 end
def uptoSmall : (H : Type) → List (DataW H) → Bool := fun _ ds => decide (uptoBulkAll ds ≤ 1048576)
def OpenSpec.upto (s : _root_.Go.ChangeSpec) : _root_.Go.OpenSpec := { _root_.Go.OpenSpec.ofChange s with cond := some uptoSmall }

/-- 'wreckagelaw10.CheckNames', WHERE WHAT IT READS IS OF BULK AT MOST 1048576: true; the input reads as it did. -/
def checkNamesUptoRow : OpenClaim := { program := "ytjcnhegjiffgpaagreatdoor", sum := "c6523b366f96584110dbb0437bc5e15198b10ae41e1330a16c133b7eb02b8d08", func := "wreckage/wreckagelaw10.CheckNames", spec := "checkNames", unfollowed := true, recurses := true, named := ["wreckage/ops.operations"], apart := false, laid := [("wreckage/ops.operations", laid_wreckage_ops_operations)], narrowed := true }
def CheckNamesUptoSaid : Prop := checkNamesUptoRow.holds Tryz.pinned (OpenSpec.upto checkNamesSpec)

/-- 'wreckagelaw10.CheckTells', WHERE WHAT IT READS IS OF BULK AT MOST 1048576: true; the input reads as it did. -/
def checkTellsUptoRow : OpenClaim := { program := "ytjcnhegjiffgpaagreatdoor", sum := "c6523b366f96584110dbb0437bc5e15198b10ae41e1330a16c133b7eb02b8d08", func := "wreckage/wreckagelaw10.CheckTells", spec := "checkTells", unfollowed := true, recurses := true, named := ["wreckage/ops.operations"], apart := false, laid := [("wreckage/ops.operations", laid_wreckage_ops_operations)], narrowed := true }
def CheckTellsUptoSaid : Prop := checkTellsUptoRow.holds Tryz.pinned (OpenSpec.upto checkTellsSpec)

/-- 'wreckagelaw10.CheckMore', WHERE WHAT IT READS IS OF BULK AT MOST 1048576: true; the input reads as it did. -/
def checkMoreUptoRow : OpenClaim := { program := "ytjcnhegjiffgpaagreatdoor", sum := "c6523b366f96584110dbb0437bc5e15198b10ae41e1330a16c133b7eb02b8d08", func := "wreckage/wreckagelaw10.CheckMore", spec := "checkMore", unfollowed := true, recurses := true, named := ["wreckage/ops.operations"], apart := false, laid := [("wreckage/ops.operations", laid_wreckage_ops_operations)], narrowed := true }
def CheckMoreUptoSaid : Prop := checkMoreUptoRow.holds Tryz.pinned (OpenSpec.upto checkMoreSpec)

end Rows
end Go.Proofs.YtjcnhegjiffgpaaGreatDoor
