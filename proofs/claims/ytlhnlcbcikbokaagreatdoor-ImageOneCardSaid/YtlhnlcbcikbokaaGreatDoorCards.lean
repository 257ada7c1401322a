/-
  DERIVED. GIVEN WITH THE SEED: THE CARDS: each row of YtlhnlcbcikbokaaGreatDoorRows.lean that lists a variable, with what it lists TIED to the program's text (the seventh form; the later family's looks); each row that meets fmt, with fmt's text TOLD by the authors' own Lean function (tested against real Go, not proved from fmt's source: count such statements apart). THE CARD IS WHAT COUNTS. Prove the row's statement (the work); the ties are given (YtlhnlcbcikbokaaGreatDoorTie.lean); close each card by the builder's one call (the guide's Derived/Test/ToyasCard.lean, 'card_holds'). Laid BY PROGRAM, IN A SANDBOX (cutbox-door.mjs). By AI agents, Wed Nov 11 2026. No macro, syntax, notation, axiom, sorry.
-/
import Derived.Test.YtlhnlcbcikbokaaGreatDoorRows
import GoSem.ClaimSeven
namespace Go.Proofs.YtlhnlcbcikbokaaGreatDoor
namespace Rows

/-- THE TIED CARD OF 'wreckagelaw09.ImageNames'. -/
def imageNamesCard : Claim7 := { stood := { row := imageNamesRow, standIns := [], harness := (true, "ca29514e348a0ea3c364a3acde25d22b8a7d79ec0d06cfc318fdca3cc491f2ac"), looks := false }, kinds := [], alts := [], laidByText := true, laidKinds := [.data], laidTests := true, laidLooks := .later }
def ImageNamesCardSaid : Prop := Claim7.holds Tryz.pinned (.plain (OpenSpec.ofChange imageNamesSpec)) imageNamesCard

/-- THE TIED CARD OF 'wreckagelaw09.ImageTells'. -/
def imageTellsCard : Claim7 := { stood := { row := imageTellsRow, standIns := [], harness := (true, "ca29514e348a0ea3c364a3acde25d22b8a7d79ec0d06cfc318fdca3cc491f2ac"), looks := false }, kinds := [], alts := [], laidByText := true, laidKinds := [.data], laidTests := true, laidLooks := .later }
def ImageTellsCardSaid : Prop := Claim7.holds Tryz.pinned (.plain (OpenSpec.ofChange imageTellsSpec)) imageTellsCard

/-- THE TIED CARD OF 'wreckagelaw09.ImageReads'. -/
def imageReadsCard : Claim7 := { stood := { row := imageReadsRow, standIns := [], harness := (true, "ca29514e348a0ea3c364a3acde25d22b8a7d79ec0d06cfc318fdca3cc491f2ac"), looks := false }, kinds := [], alts := [], laidByText := true, laidKinds := [.data], laidTests := true, laidLooks := .later }
def ImageReadsCardSaid : Prop := Claim7.holds Tryz.pinned (.plain (OpenSpec.ofChange imageReadsSpec)) imageReadsCard

/-- THE TIED CARD OF 'wreckagelaw09.ImageOne'. -/
def imageOneCard : Claim7 := { stood := { row := imageOneRow, standIns := [], harness := (true, "ca29514e348a0ea3c364a3acde25d22b8a7d79ec0d06cfc318fdca3cc491f2ac"), looks := false }, kinds := [], alts := [], laidByText := true, laidKinds := [.data], laidTests := true, laidLooks := .later }
def ImageOneCardSaid : Prop := Claim7.holds Tryz.pinned (.plain (OpenSpec.ofChange imageOneSpec)) imageOneCard

/-- THE TIED CARD OF 'wreckagelaw09.ImageFirst'. -/
def imageFirstCard : Claim7 := { stood := { row := imageFirstRow, standIns := [], harness := (true, "ca29514e348a0ea3c364a3acde25d22b8a7d79ec0d06cfc318fdca3cc491f2ac"), looks := false }, kinds := [], alts := [], laidByText := true, laidKinds := [.data], laidTests := true, laidLooks := .later }
def ImageFirstCardSaid : Prop := Claim7.holds Tryz.pinned (.plain (OpenSpec.ofChange imageFirstSpec)) imageFirstCard

/-- THE SECOND FORM's CARD OF 'wreckagelaw09.ImageNames'. -/
def imageNamesUptoCard : Claim7 := { stood := { row := imageNamesUptoRow, standIns := [], harness := (true, "ca29514e348a0ea3c364a3acde25d22b8a7d79ec0d06cfc318fdca3cc491f2ac"), looks := false }, kinds := [], alts := [], laidByText := true, laidKinds := [.data], laidTests := true, laidLooks := .later }
def ImageNamesUptoCardSaid : Prop := Claim7.holds Tryz.pinned (.plain (OpenSpec.upto imageNamesSpec)) imageNamesUptoCard

/-- THE SECOND FORM's CARD OF 'wreckagelaw09.ImageTells'. -/
def imageTellsUptoCard : Claim7 := { stood := { row := imageTellsUptoRow, standIns := [], harness := (true, "ca29514e348a0ea3c364a3acde25d22b8a7d79ec0d06cfc318fdca3cc491f2ac"), looks := false }, kinds := [], alts := [], laidByText := true, laidKinds := [.data], laidTests := true, laidLooks := .later }
def ImageTellsUptoCardSaid : Prop := Claim7.holds Tryz.pinned (.plain (OpenSpec.upto imageTellsSpec)) imageTellsUptoCard

/-- THE SECOND FORM's CARD OF 'wreckagelaw09.ImageReads'. -/
def imageReadsUptoCard : Claim7 := { stood := { row := imageReadsUptoRow, standIns := [], harness := (true, "ca29514e348a0ea3c364a3acde25d22b8a7d79ec0d06cfc318fdca3cc491f2ac"), looks := false }, kinds := [], alts := [], laidByText := true, laidKinds := [.data], laidTests := true, laidLooks := .later }
def ImageReadsUptoCardSaid : Prop := Claim7.holds Tryz.pinned (.plain (OpenSpec.upto imageReadsSpec)) imageReadsUptoCard

/-- THE SECOND FORM's CARD OF 'wreckagelaw09.ImageOne'. -/
def imageOneUptoCard : Claim7 := { stood := { row := imageOneUptoRow, standIns := [], harness := (true, "ca29514e348a0ea3c364a3acde25d22b8a7d79ec0d06cfc318fdca3cc491f2ac"), looks := false }, kinds := [], alts := [], laidByText := true, laidKinds := [.data], laidTests := true, laidLooks := .later }
def ImageOneUptoCardSaid : Prop := Claim7.holds Tryz.pinned (.plain (OpenSpec.upto imageOneSpec)) imageOneUptoCard

/-- THE SECOND FORM's CARD OF 'wreckagelaw09.ImageFirst'. -/
def imageFirstUptoCard : Claim7 := { stood := { row := imageFirstUptoRow, standIns := [], harness := (true, "ca29514e348a0ea3c364a3acde25d22b8a7d79ec0d06cfc318fdca3cc491f2ac"), looks := false }, kinds := [], alts := [], laidByText := true, laidKinds := [.data], laidTests := true, laidLooks := .later }
def ImageFirstUptoCardSaid : Prop := Claim7.holds Tryz.pinned (.plain (OpenSpec.upto imageFirstSpec)) imageFirstUptoCard
end Rows
end Go.Proofs.YtlhnlcbcikbokaaGreatDoor
