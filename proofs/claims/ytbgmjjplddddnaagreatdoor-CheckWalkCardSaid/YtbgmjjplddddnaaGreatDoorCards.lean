/-
  DERIVED. GIVEN WITH THE SEED: THE CARDS: each row of YtbgmjjplddddnaaGreatDoorRows.lean that lists a variable, with what it lists TIED to the program's text (the seventh form; the later family's looks); each row that meets fmt, with fmt's text TOLD by the authors' own Lean function (tested against real Go, not proved from fmt's source: count such statements apart). THE CARD IS WHAT COUNTS. Prove the row's statement (the work); the ties are given (YtbgmjjplddddnaaGreatDoorTie.lean); close each card by the builder's one call (the guide's Derived/Test/ToyasCard.lean, 'card_holds'). Laid BY PROGRAM, IN A SANDBOX (cutbox-door.mjs). By AI agents, Wed Nov 11 2026. No macro, syntax, notation, axiom, sorry.
-/
import Derived.Test.YtbgmjjplddddnaaGreatDoorRows
import GoSem.ClaimSeven
namespace Go.Proofs.YtbgmjjplddddnaaGreatDoor
namespace Rows

/-- THE TIED CARD OF 'wreckagelaw10.CheckNames'. -/
def checkNamesCard : Claim7 := { stood := { row := checkNamesRow, standIns := [], harness := (true, "ab571e5c0e63b9e4f21ec1b2abb6597fb6c3559b80b2a96deb7f41fecdb7ab03"), looks := false }, kinds := [], alts := [], laidByText := true, laidKinds := [.data], laidTests := true, laidLooks := .later }
def CheckNamesCardSaid : Prop := Claim7.holds Tryz.pinned (.plain (OpenSpec.ofChange checkNamesSpec)) checkNamesCard

/-- THE TIED CARD OF 'wreckagelaw10.CheckTells'. -/
def checkTellsCard : Claim7 := { stood := { row := checkTellsRow, standIns := [], harness := (true, "ab571e5c0e63b9e4f21ec1b2abb6597fb6c3559b80b2a96deb7f41fecdb7ab03"), looks := false }, kinds := [], alts := [], laidByText := true, laidKinds := [.data], laidTests := true, laidLooks := .later }
def CheckTellsCardSaid : Prop := Claim7.holds Tryz.pinned (.plain (OpenSpec.ofChange checkTellsSpec)) checkTellsCard

/-- THE TIED CARD OF 'wreckagelaw10.CheckWalk'. -/
def checkWalkCard : Claim7 := { stood := { row := checkWalkRow, standIns := [], harness := (true, "ab571e5c0e63b9e4f21ec1b2abb6597fb6c3559b80b2a96deb7f41fecdb7ab03"), looks := false }, kinds := [], alts := [], laidByText := true, laidKinds := [.data], laidTests := true, laidLooks := .later }
def CheckWalkCardSaid : Prop := Claim7.holds Tryz.pinned (.plain (OpenSpec.ofChange checkWalkSpec)) checkWalkCard

/-- THE TIED CARD OF 'wreckagelaw10.CheckMends'. -/
def checkMendsCard : Claim7 := { stood := { row := checkMendsRow, standIns := [], harness := (true, "ab571e5c0e63b9e4f21ec1b2abb6597fb6c3559b80b2a96deb7f41fecdb7ab03"), looks := false }, kinds := [], alts := [], laidByText := true, laidKinds := [.data], laidTests := true, laidLooks := .later }
def CheckMendsCardSaid : Prop := Claim7.holds Tryz.pinned (.plain (OpenSpec.ofChange checkMendsSpec)) checkMendsCard

/-- THE TIED CARD OF 'wreckagelaw10.CheckMore'. -/
def checkMoreCard : Claim7 := { stood := { row := checkMoreRow, standIns := [], harness := (true, "ab571e5c0e63b9e4f21ec1b2abb6597fb6c3559b80b2a96deb7f41fecdb7ab03"), looks := false }, kinds := [], alts := [], laidByText := true, laidKinds := [.data], laidTests := true, laidLooks := .later }
def CheckMoreCardSaid : Prop := Claim7.holds Tryz.pinned (.plain (OpenSpec.ofChange checkMoreSpec)) checkMoreCard

/-- THE TIED CARD OF 'wreckagelaw10.CheckFirst'. -/
def checkFirstCard : Claim7 := { stood := { row := checkFirstRow, standIns := [], harness := (true, "ab571e5c0e63b9e4f21ec1b2abb6597fb6c3559b80b2a96deb7f41fecdb7ab03"), looks := false }, kinds := [], alts := [], laidByText := true, laidKinds := [.data], laidTests := true, laidLooks := .later }
def CheckFirstCardSaid : Prop := Claim7.holds Tryz.pinned (.plain (OpenSpec.ofChange checkFirstSpec)) checkFirstCard

/-- THE SECOND FORM's CARD OF 'wreckagelaw10.CheckNames'. -/
def checkNamesUptoCard : Claim7 := { stood := { row := checkNamesUptoRow, standIns := [], harness := (true, "ab571e5c0e63b9e4f21ec1b2abb6597fb6c3559b80b2a96deb7f41fecdb7ab03"), looks := false }, kinds := [], alts := [], laidByText := true, laidKinds := [.data], laidTests := true, laidLooks := .later }
def CheckNamesUptoCardSaid : Prop := Claim7.holds Tryz.pinned (.plain (OpenSpec.upto checkNamesSpec)) checkNamesUptoCard

/-- THE SECOND FORM's CARD OF 'wreckagelaw10.CheckTells'. -/
def checkTellsUptoCard : Claim7 := { stood := { row := checkTellsUptoRow, standIns := [], harness := (true, "ab571e5c0e63b9e4f21ec1b2abb6597fb6c3559b80b2a96deb7f41fecdb7ab03"), looks := false }, kinds := [], alts := [], laidByText := true, laidKinds := [.data], laidTests := true, laidLooks := .later }
def CheckTellsUptoCardSaid : Prop := Claim7.holds Tryz.pinned (.plain (OpenSpec.upto checkTellsSpec)) checkTellsUptoCard

/-- THE SECOND FORM's CARD OF 'wreckagelaw10.CheckWalk'. -/
def checkWalkUptoCard : Claim7 := { stood := { row := checkWalkUptoRow, standIns := [], harness := (true, "ab571e5c0e63b9e4f21ec1b2abb6597fb6c3559b80b2a96deb7f41fecdb7ab03"), looks := false }, kinds := [], alts := [], laidByText := true, laidKinds := [.data], laidTests := true, laidLooks := .later }
def CheckWalkUptoCardSaid : Prop := Claim7.holds Tryz.pinned (.plain (OpenSpec.upto checkWalkSpec)) checkWalkUptoCard

/-- THE SECOND FORM's CARD OF 'wreckagelaw10.CheckMends'. -/
def checkMendsUptoCard : Claim7 := { stood := { row := checkMendsUptoRow, standIns := [], harness := (true, "ab571e5c0e63b9e4f21ec1b2abb6597fb6c3559b80b2a96deb7f41fecdb7ab03"), looks := false }, kinds := [], alts := [], laidByText := true, laidKinds := [.data], laidTests := true, laidLooks := .later }
def CheckMendsUptoCardSaid : Prop := Claim7.holds Tryz.pinned (.plain (OpenSpec.upto checkMendsSpec)) checkMendsUptoCard

/-- THE SECOND FORM's CARD OF 'wreckagelaw10.CheckMore'. -/
def checkMoreUptoCard : Claim7 := { stood := { row := checkMoreUptoRow, standIns := [], harness := (true, "ab571e5c0e63b9e4f21ec1b2abb6597fb6c3559b80b2a96deb7f41fecdb7ab03"), looks := false }, kinds := [], alts := [], laidByText := true, laidKinds := [.data], laidTests := true, laidLooks := .later }
def CheckMoreUptoCardSaid : Prop := Claim7.holds Tryz.pinned (.plain (OpenSpec.upto checkMoreSpec)) checkMoreUptoCard

/-- THE SECOND FORM's CARD OF 'wreckagelaw10.CheckFirst'. -/
def checkFirstUptoCard : Claim7 := { stood := { row := checkFirstUptoRow, standIns := [], harness := (true, "ab571e5c0e63b9e4f21ec1b2abb6597fb6c3559b80b2a96deb7f41fecdb7ab03"), looks := false }, kinds := [], alts := [], laidByText := true, laidKinds := [.data], laidTests := true, laidLooks := .later }
def CheckFirstUptoCardSaid : Prop := Claim7.holds Tryz.pinned (.plain (OpenSpec.upto checkFirstSpec)) checkFirstUptoCard
end Rows
end Go.Proofs.YtbgmjjplddddnaaGreatDoor
