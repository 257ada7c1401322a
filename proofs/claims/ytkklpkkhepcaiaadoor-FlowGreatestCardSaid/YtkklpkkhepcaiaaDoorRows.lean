/-
  NARROWER THAN 'FOR EVERY INPUT', by the rows' own cells (each row's printed sentence says how): FlowNames: laid · FlowNexts: laid · FlowMasks: laid · FlowGreatest: laid · FlowWalk: laid · FlowReached: laid · FlowDepths: laid.
  DERIVED. THE GIVEN ROWS OF THIS SEAT. 7 by the template 'for every input the law returns true; each argument reads behind the call as it read before'; 0 by the template 'total and deterministic' (their statements: YtkklpkkhepcaiaaDoorTotals.lean).
  GIVEN WITH THE SEED: the statements are not yours to turn. If you find one false, say at which input.
  Laid BY PROGRAM, IN A SANDBOX (cutbox-rows.mjs): the forced cells as the released guide's own fill.sh prints them over the translation 0c57671bd8a34d8b… (all of the seat's roots in one cut). By AI agents, Wed Nov 11 2026. No macro, syntax, notation, axiom, sorry.
-/
import Derived.Test.YtkklpkkhepcaiaaDoorChecked
import GoSem.Claim
import GoSem.ClaimJoined
import GoSem.ClaimMapViews
import Derived.JoinedTies
import Derived.KernelRfl
namespace Go.Proofs.YtkklpkkhepcaiaaDoor
/- THE CELL 'sum', in the pinned program and in every row, IS THE sha256 OF THE DUMP (.gsa) THAT YtkklpkkhepcaiaaDoorProg.lean LOADS. Nothing in Lean hashes anything: it is a label: what it is worth is what the hold of that sum in a sandbox is worth. -/
noncomputable def Tryd.pinned : Pinned := { name := "ytkklpkkhepcaiaadoor", sum := "0c57671bd8a34d8b4cec8b01ab5f01f20656e47200788bf98e65f2a4228724e9", checked := Tryd.checked }
namespace Rows
def none {H : Type} : Left H := { results := [], args := [] }

/- WHAT THE LISTED PACKAGE-LEVEL VARIABLES READ AS WHEN THE CALL BEGINS. Each datum BY PROGRAM (the guide's laid-datum.mjs) off the statement by which the dump's own 'gosem.cut.vars' lays the variable. In a bare row this is a premise. The card (YtkklpkkhepcaiaaDoorCards.lean) ties it to the program's text. -/
def laid_wreckage_ops_operations {H : Type} : DataW H := .agg [.agg [.lit (.string []), .agg [.lit (.int .u8 0), .lit (.int .u8 0), .lit (.int .u8 0)]], .agg [.lit (.string [105, 110, 116]), .agg [.lit (.int .u8 2), .lit (.int .u8 5), .lit (.int .u8 0)]], .agg [.lit (.string [116, 101, 120, 116]), .agg [.lit (.int .u8 2), .lit (.int .u8 7), .lit (.int .u8 0)]], .agg [.lit (.string [98, 111, 111, 108]), .agg [.lit (.int .u8 2), .lit (.int .u8 6), .lit (.int .u8 0)]], .agg [.lit (.string [122, 101, 114, 111]), .agg [.lit (.int .u8 2), .lit (.int .u8 0), .lit (.int .u8 0)]], .agg [.lit (.string [99, 111, 112, 121]), .agg [.lit (.int .u8 2), .lit (.int .u8 1), .lit (.int .u8 0)]], .agg [.lit (.string [97, 100, 100]), .agg [.lit (.int .u8 2), .lit (.int .u8 1), .lit (.int .u8 1)]], .agg [.lit (.string [115, 117, 98]), .agg [.lit (.int .u8 2), .lit (.int .u8 1), .lit (.int .u8 1)]], .agg [.lit (.string [109, 117, 108]), .agg [.lit (.int .u8 2), .lit (.int .u8 1), .lit (.int .u8 1)]], .agg [.lit (.string [100, 105, 118]), .agg [.lit (.int .u8 2), .lit (.int .u8 1), .lit (.int .u8 1)]], .agg [.lit (.string [108, 101, 115, 115]), .agg [.lit (.int .u8 2), .lit (.int .u8 1), .lit (.int .u8 1)]], .agg [.lit (.string [115, 97, 109, 101]), .agg [.lit (.int .u8 2), .lit (.int .u8 1), .lit (.int .u8 1)]], .agg [.lit (.string [110, 111, 116]), .agg [.lit (.int .u8 2), .lit (.int .u8 1), .lit (.int .u8 0)]], .agg [.lit (.string [102, 105, 101, 108, 100]), .agg [.lit (.int .u8 2), .lit (.int .u8 1), .lit (.int .u8 8)]], .agg [.lit (.string [112, 117, 116]), .agg [.lit (.int .u8 1), .lit (.int .u8 8), .lit (.int .u8 1)]], .agg [.lit (.string [110, 101, 119]), .agg [.lit (.int .u8 2), .lit (.int .u8 0), .lit (.int .u8 0)]], .agg [.lit (.string [108, 111, 97, 100]), .agg [.lit (.int .u8 2), .lit (.int .u8 1), .lit (.int .u8 0)]], .agg [.lit (.string [115, 116, 111, 114, 101]), .agg [.lit (.int .u8 1), .lit (.int .u8 1), .lit (.int .u8 0)]], .agg [.lit (.string [109, 97, 107, 101]), .agg [.lit (.int .u8 2), .lit (.int .u8 1), .lit (.int .u8 0)]], .agg [.lit (.string [97, 116]), .agg [.lit (.int .u8 2), .lit (.int .u8 1), .lit (.int .u8 1)]], .agg [.lit (.string [115, 101, 116]), .agg [.lit (.int .u8 1), .lit (.int .u8 1), .lit (.int .u8 1)]], .agg [.lit (.string [108, 101, 110]), .agg [.lit (.int .u8 2), .lit (.int .u8 1), .lit (.int .u8 0)]], .agg [.lit (.string [106, 117, 109, 112]), .agg [.lit (.int .u8 10), .lit (.int .u8 0), .lit (.int .u8 0)]], .agg [.lit (.string [98, 114, 97, 110, 99, 104]), .agg [.lit (.int .u8 1), .lit (.int .u8 10), .lit (.int .u8 0)]], .agg [.lit (.string [97, 114, 103]), .agg [.lit (.int .u8 1), .lit (.int .u8 0), .lit (.int .u8 0)]], .agg [.lit (.string [99, 97, 108, 108]), .agg [.lit (.int .u8 4), .lit (.int .u8 9), .lit (.int .u8 0)]], .agg [.lit (.string [100, 101, 102, 101, 114]), .agg [.lit (.int .u8 9), .lit (.int .u8 0), .lit (.int .u8 0)]], .agg [.lit (.string [103, 111]), .agg [.lit (.int .u8 9), .lit (.int .u8 0), .lit (.int .u8 0)]], .agg [.lit (.string [112, 97, 110, 105, 99]), .agg [.lit (.int .u8 1), .lit (.int .u8 0), .lit (.int .u8 0)]], .agg [.lit (.string [114, 101, 99, 111, 118, 101, 114]), .agg [.lit (.int .u8 2), .lit (.int .u8 2), .lit (.int .u8 0)]], .agg [.lit (.string [101, 120, 105, 116]), .agg [.lit (.int .u8 0), .lit (.int .u8 0), .lit (.int .u8 0)]], .agg [.lit (.string [121, 105, 101, 108, 100]), .agg [.lit (.int .u8 0), .lit (.int .u8 0), .lit (.int .u8 0)]], .agg [.lit (.string [98, 108, 111, 99, 107]), .agg [.lit (.int .u8 1), .lit (.int .u8 0), .lit (.int .u8 0)]], .agg [.lit (.string [119, 97, 107, 101]), .agg [.lit (.int .u8 2), .lit (.int .u8 1), .lit (.int .u8 0)]], .agg [.lit (.string [114, 101, 116, 117, 114, 110]), .agg [.lit (.int .u8 3), .lit (.int .u8 0), .lit (.int .u8 0)]]]

/-- 'wreckagelaw07.FlowNames': WHATEVER THE INPUT: true; the input reads as it did. -/
def flowNamesSpec : ChangeSpec := { name := "flowNames", fn := fun _ => fun
  | [] => { results := [.lit (.bool true)], args := [] }
  | _ => none }
def flowNamesRow : OpenClaim := { program := "ytkklpkkhepcaiaadoor", sum := "0c57671bd8a34d8b4cec8b01ab5f01f20656e47200788bf98e65f2a4228724e9", func := "wreckage/wreckagelaw07.FlowNames", spec := "flowNames", unfollowed := true, recurses := true, named := ["wreckage/ops.operations"], apart := false, laid := [("wreckage/ops.operations", laid_wreckage_ops_operations)] }
def FlowNamesSaid : Prop := flowNamesRow.holds Tryd.pinned (OpenSpec.ofChange flowNamesSpec)

/-- ITS FALSE NEIGHBOUR: 'it returns false'. Refute it at one input. -/
def flowNamesWrong : ChangeSpec := { name := "flowNames", fn := fun _ => fun
  | [] => { results := [.lit (.bool false)], args := [] }
  | _ => none }
def FlowNamesWrongFalsely : Prop := flowNamesRow.holds Tryd.pinned (OpenSpec.ofChange flowNamesWrong)

/-- 'wreckagelaw07.FlowNexts': WHATEVER THE INPUT: true; the input reads as it did. -/
def flowNextsSpec : ChangeSpec := { name := "flowNexts", fn := fun _ => fun
  | [d1, d2] => { results := [.lit (.bool true)], args := [d1, d2] }
  | _ => none }
def flowNextsRow : OpenClaim := { program := "ytkklpkkhepcaiaadoor", sum := "0c57671bd8a34d8b4cec8b01ab5f01f20656e47200788bf98e65f2a4228724e9", func := "wreckage/wreckagelaw07.FlowNexts", spec := "flowNexts", unfollowed := true, recurses := true, named := ["wreckage/ops.operations"], apart := false, laid := [("wreckage/ops.operations", laid_wreckage_ops_operations)] }
def FlowNextsSaid : Prop := flowNextsRow.holds Tryd.pinned (OpenSpec.ofChange flowNextsSpec)

/-- ITS FALSE NEIGHBOUR: 'it returns false'. Refute it at one input. -/
def flowNextsWrong : ChangeSpec := { name := "flowNexts", fn := fun _ => fun
  | [d1, d2] => { results := [.lit (.bool false)], args := [d1, d2] }
  | _ => none }
def FlowNextsWrongFalsely : Prop := flowNextsRow.holds Tryd.pinned (OpenSpec.ofChange flowNextsWrong)

/-- 'wreckagelaw07.FlowMasks': WHATEVER THE INPUT: true; the input reads as it did. -/
def flowMasksSpec : ChangeSpec := { name := "flowMasks", fn := fun _ => fun
  | [d1, d2, d3, d4] => { results := [.lit (.bool true)], args := [d1, d2, d3, d4] }
  | _ => none }
def flowMasksRow : OpenClaim := { program := "ytkklpkkhepcaiaadoor", sum := "0c57671bd8a34d8b4cec8b01ab5f01f20656e47200788bf98e65f2a4228724e9", func := "wreckage/wreckagelaw07.FlowMasks", spec := "flowMasks", unfollowed := true, recurses := true, named := ["wreckage/ops.operations"], apart := false, laid := [("wreckage/ops.operations", laid_wreckage_ops_operations)] }
def FlowMasksSaid : Prop := flowMasksRow.holds Tryd.pinned (OpenSpec.ofChange flowMasksSpec)

/-- ITS FALSE NEIGHBOUR: 'it returns false'. Refute it at one input. -/
def flowMasksWrong : ChangeSpec := { name := "flowMasks", fn := fun _ => fun
  | [d1, d2, d3, d4] => { results := [.lit (.bool false)], args := [d1, d2, d3, d4] }
  | _ => none }
def FlowMasksWrongFalsely : Prop := flowMasksRow.holds Tryd.pinned (OpenSpec.ofChange flowMasksWrong)

/-- 'wreckagelaw07.FlowGreatest': WHATEVER THE INPUT: true; the input reads as it did. -/
def flowGreatestSpec : ChangeSpec := { name := "flowGreatest", fn := fun _ => fun
  | [d1, d2, d3, d4] => { results := [.lit (.bool true)], args := [d1, d2, d3, d4] }
  | _ => none }
def flowGreatestRow : OpenClaim := { program := "ytkklpkkhepcaiaadoor", sum := "0c57671bd8a34d8b4cec8b01ab5f01f20656e47200788bf98e65f2a4228724e9", func := "wreckage/wreckagelaw07.FlowGreatest", spec := "flowGreatest", unfollowed := true, recurses := true, named := ["wreckage/ops.operations"], apart := false, laid := [("wreckage/ops.operations", laid_wreckage_ops_operations)] }
def FlowGreatestSaid : Prop := flowGreatestRow.holds Tryd.pinned (OpenSpec.ofChange flowGreatestSpec)

/-- ITS FALSE NEIGHBOUR: 'it returns false'. Refute it at one input. -/
def flowGreatestWrong : ChangeSpec := { name := "flowGreatest", fn := fun _ => fun
  | [d1, d2, d3, d4] => { results := [.lit (.bool false)], args := [d1, d2, d3, d4] }
  | _ => none }
def FlowGreatestWrongFalsely : Prop := flowGreatestRow.holds Tryd.pinned (OpenSpec.ofChange flowGreatestWrong)

/-- 'wreckagelaw07.FlowWalk': WHATEVER THE INPUT: true; the input reads as it did. -/
def flowWalkSpec : ChangeSpec := { name := "flowWalk", fn := fun _ => fun
  | [d1, d2, d3, d4, d5] => { results := [.lit (.bool true)], args := [d1, d2, d3, d4, d5] }
  | _ => none }
def flowWalkRow : OpenClaim := { program := "ytkklpkkhepcaiaadoor", sum := "0c57671bd8a34d8b4cec8b01ab5f01f20656e47200788bf98e65f2a4228724e9", func := "wreckage/wreckagelaw07.FlowWalk", spec := "flowWalk", unfollowed := true, recurses := true, named := ["wreckage/ops.operations"], apart := false, laid := [("wreckage/ops.operations", laid_wreckage_ops_operations)] }
def FlowWalkSaid : Prop := flowWalkRow.holds Tryd.pinned (OpenSpec.ofChange flowWalkSpec)

/-- ITS FALSE NEIGHBOUR: 'it returns false'. Refute it at one input. -/
def flowWalkWrong : ChangeSpec := { name := "flowWalk", fn := fun _ => fun
  | [d1, d2, d3, d4, d5] => { results := [.lit (.bool false)], args := [d1, d2, d3, d4, d5] }
  | _ => none }
def FlowWalkWrongFalsely : Prop := flowWalkRow.holds Tryd.pinned (OpenSpec.ofChange flowWalkWrong)

/-- 'wreckagelaw07.FlowReached': WHATEVER THE INPUT: true; the input reads as it did. -/
def flowReachedSpec : ChangeSpec := { name := "flowReached", fn := fun _ => fun
  | [d] => { results := [.lit (.bool true)], args := [d] }
  | _ => none }
def flowReachedRow : OpenClaim := { program := "ytkklpkkhepcaiaadoor", sum := "0c57671bd8a34d8b4cec8b01ab5f01f20656e47200788bf98e65f2a4228724e9", func := "wreckage/wreckagelaw07.FlowReached", spec := "flowReached", unfollowed := true, recurses := true, named := ["wreckage/ops.operations"], apart := false, laid := [("wreckage/ops.operations", laid_wreckage_ops_operations)] }
def FlowReachedSaid : Prop := flowReachedRow.holds Tryd.pinned (OpenSpec.ofChange flowReachedSpec)

/-- ITS FALSE NEIGHBOUR: 'it returns false'. Refute it at one input. -/
def flowReachedWrong : ChangeSpec := { name := "flowReached", fn := fun _ => fun
  | [d] => { results := [.lit (.bool false)], args := [d] }
  | _ => none }
def FlowReachedWrongFalsely : Prop := flowReachedRow.holds Tryd.pinned (OpenSpec.ofChange flowReachedWrong)

/-- 'wreckagelaw07.FlowDepths': WHATEVER THE INPUT: true; the input reads as it did. -/
def flowDepthsSpec : ChangeSpec := { name := "flowDepths", fn := fun _ => fun
  | [d1, d2, d3] => { results := [.lit (.bool true)], args := [d1, d2, d3] }
  | _ => none }
def flowDepthsRow : OpenClaim := { program := "ytkklpkkhepcaiaadoor", sum := "0c57671bd8a34d8b4cec8b01ab5f01f20656e47200788bf98e65f2a4228724e9", func := "wreckage/wreckagelaw07.FlowDepths", spec := "flowDepths", unfollowed := true, recurses := true, named := ["wreckage/ops.operations"], apart := false, laid := [("wreckage/ops.operations", laid_wreckage_ops_operations)] }
def FlowDepthsSaid : Prop := flowDepthsRow.holds Tryd.pinned (OpenSpec.ofChange flowDepthsSpec)

/-- ITS FALSE NEIGHBOUR: 'it returns false'. Refute it at one input. -/
def flowDepthsWrong : ChangeSpec := { name := "flowDepths", fn := fun _ => fun
  | [d1, d2, d3] => { results := [.lit (.bool false)], args := [d1, d2, d3] }
  | _ => none }
def FlowDepthsWrongFalsely : Prop := flowDepthsRow.holds Tryd.pinned (OpenSpec.ofChange flowDepthsWrong)

/- THE SECOND FORM. 'bulk': how many values and letters a reading holds, each counted each time it is reached (what is shared counts as often as it is met; a slice's spare places count too). A statement '..UptoSaid' is the law's where the arguments, and the package variables that the reading takes, are together of bulk at most 1048576: NARROWER than '..Said'. Prove '..Said' where nothing that the law and all that it calls make is longer than what came in: it says more and counts as full. Else prove '..UptoSaid'. A law counts once. -/
mutual
def uptoBulk {H : Type} : DataW H → Nat
  | .lit (.string bytes) => bytes.length + 1
  | .lit _ => 1
  | .nil => 1
  | .ptr d => uptoBulk d + 1
  | .slice elems spare => uptoBulkAll elems + uptoBulkAll spare + 1
  | .agg parts => uptoBulkAll parts + 1
  | .iface _ d => uptoBulk d + 1
  | .map entries => uptoBulkEntries entries + 1
  | .held _ => 1
def uptoBulkAll {H : Type} : List (DataW H) → Nat
  | [] => 0
  | d :: r => uptoBulk d + uptoBulkAll r
def uptoBulkEntries {H : Type} : List (Lit × DataW H) → Nat
  | [] => 0
  | x :: r => uptoBulkEntry x + uptoBulkEntries r
def uptoBulkEntry {H : Type} : Lit × DataW H → Nat
  | (.string bytes, d) => bytes.length + uptoBulk d + 1
  | (_, d) => uptoBulk d + 1
 end
def uptoSmall : (H : Type) → List (DataW H) → Bool := fun _ ds => decide (uptoBulkAll ds ≤ 1048576)
def OpenSpec.upto (s : _root_.Go.ChangeSpec) : _root_.Go.OpenSpec := { _root_.Go.OpenSpec.ofChange s with cond := some uptoSmall }

/-- 'wreckagelaw07.FlowNames', WHERE WHAT IT READS IS OF BULK AT MOST 1048576: true; the input reads as it did. -/
def flowNamesUptoRow : OpenClaim := { program := "ytkklpkkhepcaiaadoor", sum := "0c57671bd8a34d8b4cec8b01ab5f01f20656e47200788bf98e65f2a4228724e9", func := "wreckage/wreckagelaw07.FlowNames", spec := "flowNames", unfollowed := true, recurses := true, named := ["wreckage/ops.operations"], apart := false, laid := [("wreckage/ops.operations", laid_wreckage_ops_operations)], narrowed := true }
def FlowNamesUptoSaid : Prop := flowNamesUptoRow.holds Tryd.pinned (OpenSpec.upto flowNamesSpec)

/-- 'wreckagelaw07.FlowNexts', WHERE WHAT IT READS IS OF BULK AT MOST 1048576: true; the input reads as it did. -/
def flowNextsUptoRow : OpenClaim := { program := "ytkklpkkhepcaiaadoor", sum := "0c57671bd8a34d8b4cec8b01ab5f01f20656e47200788bf98e65f2a4228724e9", func := "wreckage/wreckagelaw07.FlowNexts", spec := "flowNexts", unfollowed := true, recurses := true, named := ["wreckage/ops.operations"], apart := false, laid := [("wreckage/ops.operations", laid_wreckage_ops_operations)], narrowed := true }
def FlowNextsUptoSaid : Prop := flowNextsUptoRow.holds Tryd.pinned (OpenSpec.upto flowNextsSpec)

/-- 'wreckagelaw07.FlowMasks', WHERE WHAT IT READS IS OF BULK AT MOST 1048576: true; the input reads as it did. -/
def flowMasksUptoRow : OpenClaim := { program := "ytkklpkkhepcaiaadoor", sum := "0c57671bd8a34d8b4cec8b01ab5f01f20656e47200788bf98e65f2a4228724e9", func := "wreckage/wreckagelaw07.FlowMasks", spec := "flowMasks", unfollowed := true, recurses := true, named := ["wreckage/ops.operations"], apart := false, laid := [("wreckage/ops.operations", laid_wreckage_ops_operations)], narrowed := true }
def FlowMasksUptoSaid : Prop := flowMasksUptoRow.holds Tryd.pinned (OpenSpec.upto flowMasksSpec)

/-- 'wreckagelaw07.FlowGreatest', WHERE WHAT IT READS IS OF BULK AT MOST 1048576: true; the input reads as it did. -/
def flowGreatestUptoRow : OpenClaim := { program := "ytkklpkkhepcaiaadoor", sum := "0c57671bd8a34d8b4cec8b01ab5f01f20656e47200788bf98e65f2a4228724e9", func := "wreckage/wreckagelaw07.FlowGreatest", spec := "flowGreatest", unfollowed := true, recurses := true, named := ["wreckage/ops.operations"], apart := false, laid := [("wreckage/ops.operations", laid_wreckage_ops_operations)], narrowed := true }
def FlowGreatestUptoSaid : Prop := flowGreatestUptoRow.holds Tryd.pinned (OpenSpec.upto flowGreatestSpec)

/-- 'wreckagelaw07.FlowWalk', WHERE WHAT IT READS IS OF BULK AT MOST 1048576: true; the input reads as it did. -/
def flowWalkUptoRow : OpenClaim := { program := "ytkklpkkhepcaiaadoor", sum := "0c57671bd8a34d8b4cec8b01ab5f01f20656e47200788bf98e65f2a4228724e9", func := "wreckage/wreckagelaw07.FlowWalk", spec := "flowWalk", unfollowed := true, recurses := true, named := ["wreckage/ops.operations"], apart := false, laid := [("wreckage/ops.operations", laid_wreckage_ops_operations)], narrowed := true }
def FlowWalkUptoSaid : Prop := flowWalkUptoRow.holds Tryd.pinned (OpenSpec.upto flowWalkSpec)

/-- 'wreckagelaw07.FlowReached', WHERE WHAT IT READS IS OF BULK AT MOST 1048576: true; the input reads as it did. -/
def flowReachedUptoRow : OpenClaim := { program := "ytkklpkkhepcaiaadoor", sum := "0c57671bd8a34d8b4cec8b01ab5f01f20656e47200788bf98e65f2a4228724e9", func := "wreckage/wreckagelaw07.FlowReached", spec := "flowReached", unfollowed := true, recurses := true, named := ["wreckage/ops.operations"], apart := false, laid := [("wreckage/ops.operations", laid_wreckage_ops_operations)], narrowed := true }
def FlowReachedUptoSaid : Prop := flowReachedUptoRow.holds Tryd.pinned (OpenSpec.upto flowReachedSpec)

/-- 'wreckagelaw07.FlowDepths', WHERE WHAT IT READS IS OF BULK AT MOST 1048576: true; the input reads as it did. -/
def flowDepthsUptoRow : OpenClaim := { program := "ytkklpkkhepcaiaadoor", sum := "0c57671bd8a34d8b4cec8b01ab5f01f20656e47200788bf98e65f2a4228724e9", func := "wreckage/wreckagelaw07.FlowDepths", spec := "flowDepths", unfollowed := true, recurses := true, named := ["wreckage/ops.operations"], apart := false, laid := [("wreckage/ops.operations", laid_wreckage_ops_operations)], narrowed := true }
def FlowDepthsUptoSaid : Prop := flowDepthsUptoRow.holds Tryd.pinned (OpenSpec.upto flowDepthsSpec)

end Rows
end Go.Proofs.YtkklpkkhepcaiaaDoor
