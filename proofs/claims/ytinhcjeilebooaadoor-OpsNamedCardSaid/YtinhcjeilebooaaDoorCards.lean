/-
  DERIVED. GIVEN WITH THE SEED: THE CARDS: each row of YtinhcjeilebooaaDoorRows.lean that lists a variable, with what it lists TIED to the program's text (the seventh form; the later family's looks); each row that meets fmt, with fmt's text TOLD by the authors' own Lean function (tested against real Go, not proved from fmt's source: count such statements apart). THE CARD IS WHAT COUNTS. Prove the row's statement (the work); the ties are given (YtinhcjeilebooaaDoorTie.lean); close each card by the builder's one call (the guide's Derived/Test/ToyasCard.lean, 'card_holds'). Laid BY PROGRAM, IN A SANDBOX (cutbox-door.mjs). By AI agents, Wed Nov 11 2026. No macro, syntax, notation, axiom, sorry.
-/
import Derived.Test.YtinhcjeilebooaaDoorRows
import GoSem.ClaimSeven
namespace Go.Proofs.YtinhcjeilebooaaDoor
namespace Rows

/-- THE TIED CARD OF 'wreckagelaw06.OpsNames'. -/
def opsNamesCard : Claim7 := { stood := { row := opsNamesRow, standIns := [], harness := (true, "48b9359f19b68e4f7354eee245570ca3335e87aad190140749250f4bce4ec481"), looks := false }, kinds := [], alts := [], laidByText := true, laidKinds := [.data], laidTests := true, laidLooks := .later }
def OpsNamesCardSaid : Prop := Claim7.holds Tryd.pinned (.plain (OpenSpec.ofChange opsNamesSpec)) opsNamesCard

/-- THE TIED CARD OF 'wreckagelaw06.OpsReads'. -/
def opsReadsCard : Claim7 := { stood := { row := opsReadsRow, standIns := [], harness := (true, "48b9359f19b68e4f7354eee245570ca3335e87aad190140749250f4bce4ec481"), looks := false }, kinds := [], alts := [], laidByText := true, laidKinds := [.data], laidTests := true, laidLooks := .later }
def OpsReadsCardSaid : Prop := Claim7.holds Tryd.pinned (.plain (OpenSpec.ofChange opsReadsSpec)) opsReadsCard

/-- THE TIED CARD OF 'wreckagelaw06.OpsOne'. -/
def opsOneCard : Claim7 := { stood := { row := opsOneRow, standIns := [], harness := (true, "48b9359f19b68e4f7354eee245570ca3335e87aad190140749250f4bce4ec481"), looks := false }, kinds := [], alts := [], laidByText := true, laidKinds := [.data], laidTests := true, laidLooks := .later }
def OpsOneCardSaid : Prop := Claim7.holds Tryd.pinned (.plain (OpenSpec.ofChange opsOneSpec)) opsOneCard

/-- THE TIED CARD OF 'wreckagelaw06.OpsNamed'. -/
def opsNamedCard : Claim7 := { stood := { row := opsNamedRow, standIns := [], harness := (true, "48b9359f19b68e4f7354eee245570ca3335e87aad190140749250f4bce4ec481"), looks := false }, kinds := [], alts := [], laidByText := true, laidKinds := [.data], laidTests := true, laidLooks := .later }
def OpsNamedCardSaid : Prop := Claim7.holds Tryd.pinned (.plain (OpenSpec.ofChange opsNamedSpec)) opsNamedCard

/-- THE TIED CARD OF 'wreckagelaw06.OpsSlots'. -/
def opsSlotsCard : Claim7 := { stood := { row := opsSlotsRow, standIns := [], harness := (true, "48b9359f19b68e4f7354eee245570ca3335e87aad190140749250f4bce4ec481"), looks := false }, kinds := [], alts := [], laidByText := true, laidKinds := [.data], laidTests := true, laidLooks := .later }
def OpsSlotsCardSaid : Prop := Claim7.holds Tryd.pinned (.plain (OpenSpec.ofChange opsSlotsSpec)) opsSlotsCard

/-- THE TIED CARD OF 'wreckagelaw06.OpsFirst'. -/
def opsFirstCard : Claim7 := { stood := { row := opsFirstRow, standIns := [], harness := (true, "48b9359f19b68e4f7354eee245570ca3335e87aad190140749250f4bce4ec481"), looks := false }, kinds := [], alts := [], laidByText := true, laidKinds := [.data], laidTests := true, laidLooks := .later }
def OpsFirstCardSaid : Prop := Claim7.holds Tryd.pinned (.plain (OpenSpec.ofChange opsFirstSpec)) opsFirstCard

/-- THE SECOND FORM's CARD OF 'wreckagelaw06.OpsNames'. -/
def opsNamesUptoCard : Claim7 := { stood := { row := opsNamesUptoRow, standIns := [], harness := (true, "48b9359f19b68e4f7354eee245570ca3335e87aad190140749250f4bce4ec481"), looks := false }, kinds := [], alts := [], laidByText := true, laidKinds := [.data], laidTests := true, laidLooks := .later }
def OpsNamesUptoCardSaid : Prop := Claim7.holds Tryd.pinned (.plain (OpenSpec.upto opsNamesSpec)) opsNamesUptoCard

/-- THE SECOND FORM's CARD OF 'wreckagelaw06.OpsReads'. -/
def opsReadsUptoCard : Claim7 := { stood := { row := opsReadsUptoRow, standIns := [], harness := (true, "48b9359f19b68e4f7354eee245570ca3335e87aad190140749250f4bce4ec481"), looks := false }, kinds := [], alts := [], laidByText := true, laidKinds := [.data], laidTests := true, laidLooks := .later }
def OpsReadsUptoCardSaid : Prop := Claim7.holds Tryd.pinned (.plain (OpenSpec.upto opsReadsSpec)) opsReadsUptoCard

/-- THE SECOND FORM's CARD OF 'wreckagelaw06.OpsOne'. -/
def opsOneUptoCard : Claim7 := { stood := { row := opsOneUptoRow, standIns := [], harness := (true, "48b9359f19b68e4f7354eee245570ca3335e87aad190140749250f4bce4ec481"), looks := false }, kinds := [], alts := [], laidByText := true, laidKinds := [.data], laidTests := true, laidLooks := .later }
def OpsOneUptoCardSaid : Prop := Claim7.holds Tryd.pinned (.plain (OpenSpec.upto opsOneSpec)) opsOneUptoCard

/-- THE SECOND FORM's CARD OF 'wreckagelaw06.OpsNamed'. -/
def opsNamedUptoCard : Claim7 := { stood := { row := opsNamedUptoRow, standIns := [], harness := (true, "48b9359f19b68e4f7354eee245570ca3335e87aad190140749250f4bce4ec481"), looks := false }, kinds := [], alts := [], laidByText := true, laidKinds := [.data], laidTests := true, laidLooks := .later }
def OpsNamedUptoCardSaid : Prop := Claim7.holds Tryd.pinned (.plain (OpenSpec.upto opsNamedSpec)) opsNamedUptoCard

/-- THE SECOND FORM's CARD OF 'wreckagelaw06.OpsSlots'. -/
def opsSlotsUptoCard : Claim7 := { stood := { row := opsSlotsUptoRow, standIns := [], harness := (true, "48b9359f19b68e4f7354eee245570ca3335e87aad190140749250f4bce4ec481"), looks := false }, kinds := [], alts := [], laidByText := true, laidKinds := [.data], laidTests := true, laidLooks := .later }
def OpsSlotsUptoCardSaid : Prop := Claim7.holds Tryd.pinned (.plain (OpenSpec.upto opsSlotsSpec)) opsSlotsUptoCard

/-- THE SECOND FORM's CARD OF 'wreckagelaw06.OpsFirst'. -/
def opsFirstUptoCard : Claim7 := { stood := { row := opsFirstUptoRow, standIns := [], harness := (true, "48b9359f19b68e4f7354eee245570ca3335e87aad190140749250f4bce4ec481"), looks := false }, kinds := [], alts := [], laidByText := true, laidKinds := [.data], laidTests := true, laidLooks := .later }
def OpsFirstUptoCardSaid : Prop := Claim7.holds Tryd.pinned (.plain (OpenSpec.upto opsFirstSpec)) opsFirstUptoCard
end Rows
end Go.Proofs.YtinhcjeilebooaaDoor
