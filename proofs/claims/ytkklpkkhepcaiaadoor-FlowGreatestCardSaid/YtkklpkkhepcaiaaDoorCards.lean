/-
  DERIVED. GIVEN WITH THE SEED: THE CARDS: each row of YtkklpkkhepcaiaaDoorRows.lean that lists a variable, with what it lists TIED to the program's text (the seventh form; the later family's looks); each row that meets fmt, with fmt's text TOLD by the authors' own Lean function (tested against real Go, not proved from fmt's source: count such statements apart). THE CARD IS WHAT COUNTS. Prove the row's statement (the work); the ties are given (YtkklpkkhepcaiaaDoorTie.lean); close each card by the builder's one call (the guide's Derived/Test/ToyasCard.lean, 'card_holds'). Laid BY PROGRAM, IN A SANDBOX (cutbox-door.mjs). By AI agents, Wed Nov 11 2026. No macro, syntax, notation, axiom, sorry.
-/
import Derived.Test.YtkklpkkhepcaiaaDoorRows
import GoSem.ClaimSeven
namespace Go.Proofs.YtkklpkkhepcaiaaDoor
namespace Rows

/-- THE TIED CARD OF 'wreckagelaw07.FlowNames'. -/
def flowNamesCard : Claim7 := { stood := { row := flowNamesRow, standIns := [], harness := (true, "83e1ea86055213917c7015fc0246b6ff1533c5ffed7400753458836d2f83c5cb"), looks := false }, kinds := [], alts := [], laidByText := true, laidKinds := [.data], laidTests := true, laidLooks := .later }
def FlowNamesCardSaid : Prop := Claim7.holds Tryd.pinned (.plain (OpenSpec.ofChange flowNamesSpec)) flowNamesCard

/-- THE TIED CARD OF 'wreckagelaw07.FlowNexts'. -/
def flowNextsCard : Claim7 := { stood := { row := flowNextsRow, standIns := [], harness := (true, "83e1ea86055213917c7015fc0246b6ff1533c5ffed7400753458836d2f83c5cb"), looks := false }, kinds := [], alts := [], laidByText := true, laidKinds := [.data], laidTests := true, laidLooks := .later }
def FlowNextsCardSaid : Prop := Claim7.holds Tryd.pinned (.plain (OpenSpec.ofChange flowNextsSpec)) flowNextsCard

/-- THE TIED CARD OF 'wreckagelaw07.FlowMasks'. -/
def flowMasksCard : Claim7 := { stood := { row := flowMasksRow, standIns := [], harness := (true, "83e1ea86055213917c7015fc0246b6ff1533c5ffed7400753458836d2f83c5cb"), looks := false }, kinds := [], alts := [], laidByText := true, laidKinds := [.data], laidTests := true, laidLooks := .later }
def FlowMasksCardSaid : Prop := Claim7.holds Tryd.pinned (.plain (OpenSpec.ofChange flowMasksSpec)) flowMasksCard

/-- THE TIED CARD OF 'wreckagelaw07.FlowGreatest'. -/
def flowGreatestCard : Claim7 := { stood := { row := flowGreatestRow, standIns := [], harness := (true, "83e1ea86055213917c7015fc0246b6ff1533c5ffed7400753458836d2f83c5cb"), looks := false }, kinds := [], alts := [], laidByText := true, laidKinds := [.data], laidTests := true, laidLooks := .later }
def FlowGreatestCardSaid : Prop := Claim7.holds Tryd.pinned (.plain (OpenSpec.ofChange flowGreatestSpec)) flowGreatestCard

/-- THE TIED CARD OF 'wreckagelaw07.FlowWalk'. -/
def flowWalkCard : Claim7 := { stood := { row := flowWalkRow, standIns := [], harness := (true, "83e1ea86055213917c7015fc0246b6ff1533c5ffed7400753458836d2f83c5cb"), looks := false }, kinds := [], alts := [], laidByText := true, laidKinds := [.data], laidTests := true, laidLooks := .later }
def FlowWalkCardSaid : Prop := Claim7.holds Tryd.pinned (.plain (OpenSpec.ofChange flowWalkSpec)) flowWalkCard

/-- THE TIED CARD OF 'wreckagelaw07.FlowReached'. -/
def flowReachedCard : Claim7 := { stood := { row := flowReachedRow, standIns := [], harness := (true, "83e1ea86055213917c7015fc0246b6ff1533c5ffed7400753458836d2f83c5cb"), looks := false }, kinds := [], alts := [], laidByText := true, laidKinds := [.data], laidTests := true, laidLooks := .later }
def FlowReachedCardSaid : Prop := Claim7.holds Tryd.pinned (.plain (OpenSpec.ofChange flowReachedSpec)) flowReachedCard

/-- THE TIED CARD OF 'wreckagelaw07.FlowDepths'. -/
def flowDepthsCard : Claim7 := { stood := { row := flowDepthsRow, standIns := [], harness := (true, "83e1ea86055213917c7015fc0246b6ff1533c5ffed7400753458836d2f83c5cb"), looks := false }, kinds := [], alts := [], laidByText := true, laidKinds := [.data], laidTests := true, laidLooks := .later }
def FlowDepthsCardSaid : Prop := Claim7.holds Tryd.pinned (.plain (OpenSpec.ofChange flowDepthsSpec)) flowDepthsCard

/-- THE SECOND FORM's CARD OF 'wreckagelaw07.FlowNames'. -/
def flowNamesUptoCard : Claim7 := { stood := { row := flowNamesUptoRow, standIns := [], harness := (true, "83e1ea86055213917c7015fc0246b6ff1533c5ffed7400753458836d2f83c5cb"), looks := false }, kinds := [], alts := [], laidByText := true, laidKinds := [.data], laidTests := true, laidLooks := .later }
def FlowNamesUptoCardSaid : Prop := Claim7.holds Tryd.pinned (.plain (OpenSpec.upto flowNamesSpec)) flowNamesUptoCard

/-- THE SECOND FORM's CARD OF 'wreckagelaw07.FlowNexts'. -/
def flowNextsUptoCard : Claim7 := { stood := { row := flowNextsUptoRow, standIns := [], harness := (true, "83e1ea86055213917c7015fc0246b6ff1533c5ffed7400753458836d2f83c5cb"), looks := false }, kinds := [], alts := [], laidByText := true, laidKinds := [.data], laidTests := true, laidLooks := .later }
def FlowNextsUptoCardSaid : Prop := Claim7.holds Tryd.pinned (.plain (OpenSpec.upto flowNextsSpec)) flowNextsUptoCard

/-- THE SECOND FORM's CARD OF 'wreckagelaw07.FlowMasks'. -/
def flowMasksUptoCard : Claim7 := { stood := { row := flowMasksUptoRow, standIns := [], harness := (true, "83e1ea86055213917c7015fc0246b6ff1533c5ffed7400753458836d2f83c5cb"), looks := false }, kinds := [], alts := [], laidByText := true, laidKinds := [.data], laidTests := true, laidLooks := .later }
def FlowMasksUptoCardSaid : Prop := Claim7.holds Tryd.pinned (.plain (OpenSpec.upto flowMasksSpec)) flowMasksUptoCard

/-- THE SECOND FORM's CARD OF 'wreckagelaw07.FlowGreatest'. -/
def flowGreatestUptoCard : Claim7 := { stood := { row := flowGreatestUptoRow, standIns := [], harness := (true, "83e1ea86055213917c7015fc0246b6ff1533c5ffed7400753458836d2f83c5cb"), looks := false }, kinds := [], alts := [], laidByText := true, laidKinds := [.data], laidTests := true, laidLooks := .later }
def FlowGreatestUptoCardSaid : Prop := Claim7.holds Tryd.pinned (.plain (OpenSpec.upto flowGreatestSpec)) flowGreatestUptoCard

/-- THE SECOND FORM's CARD OF 'wreckagelaw07.FlowWalk'. -/
def flowWalkUptoCard : Claim7 := { stood := { row := flowWalkUptoRow, standIns := [], harness := (true, "83e1ea86055213917c7015fc0246b6ff1533c5ffed7400753458836d2f83c5cb"), looks := false }, kinds := [], alts := [], laidByText := true, laidKinds := [.data], laidTests := true, laidLooks := .later }
def FlowWalkUptoCardSaid : Prop := Claim7.holds Tryd.pinned (.plain (OpenSpec.upto flowWalkSpec)) flowWalkUptoCard

/-- THE SECOND FORM's CARD OF 'wreckagelaw07.FlowReached'. -/
def flowReachedUptoCard : Claim7 := { stood := { row := flowReachedUptoRow, standIns := [], harness := (true, "83e1ea86055213917c7015fc0246b6ff1533c5ffed7400753458836d2f83c5cb"), looks := false }, kinds := [], alts := [], laidByText := true, laidKinds := [.data], laidTests := true, laidLooks := .later }
def FlowReachedUptoCardSaid : Prop := Claim7.holds Tryd.pinned (.plain (OpenSpec.upto flowReachedSpec)) flowReachedUptoCard

/-- THE SECOND FORM's CARD OF 'wreckagelaw07.FlowDepths'. -/
def flowDepthsUptoCard : Claim7 := { stood := { row := flowDepthsUptoRow, standIns := [], harness := (true, "83e1ea86055213917c7015fc0246b6ff1533c5ffed7400753458836d2f83c5cb"), looks := false }, kinds := [], alts := [], laidByText := true, laidKinds := [.data], laidTests := true, laidLooks := .later }
def FlowDepthsUptoCardSaid : Prop := Claim7.holds Tryd.pinned (.plain (OpenSpec.upto flowDepthsSpec)) flowDepthsUptoCard
end Rows
end Go.Proofs.YtkklpkkhepcaiaaDoor
