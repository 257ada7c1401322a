/-
  DERIVED. GIVEN WITH THE SEED: THE CARDS: each row of YtlhnlcbcikbokaaDoorRows.lean that lists a variable, with what it lists TIED to the program's text (the seventh form; the later family's looks); each row that meets fmt, with fmt's text TOLD by the authors' own Lean function (tested against real Go, not proved from fmt's source: count such statements apart). THE CARD IS WHAT COUNTS. Prove the row's statement (the work); the ties are given (YtlhnlcbcikbokaaDoorTie.lean); close each card by the builder's one call (the guide's Derived/Test/ToyasCard.lean, 'card_holds'). Laid BY PROGRAM, IN A SANDBOX (cutbox-door.mjs). By AI agents, Wed Nov 11 2026. No macro, syntax, notation, axiom, sorry.
-/
import Derived.Test.YtlhnlcbcikbokaaDoorRows
import GoSem.ClaimSeven
namespace Go.Proofs.YtlhnlcbcikbokaaDoor
namespace Rows

/-- THE TIED CARD OF 'wreckagelaw09.ImageFinds'. -/
def imageFindsCard : Claim7 := { stood := { row := imageFindsRow, standIns := [], harness := (true, "c063240163dc8c1e55b7d5e282c929a0146d1370cccf6685493da9705d02589a"), looks := false }, kinds := [], alts := [], laidByText := true, laidKinds := [.data], laidTests := true, laidLooks := .later }
def ImageFindsCardSaid : Prop := Claim7.holds Tryd.pinned (.plain (OpenSpec.ofChange imageFindsSpec)) imageFindsCard

/-- THE TIED CARD OF 'wreckagelaw09.ImageMore'. -/
def imageMoreCard : Claim7 := { stood := { row := imageMoreRow, standIns := [], harness := (true, "c063240163dc8c1e55b7d5e282c929a0146d1370cccf6685493da9705d02589a"), looks := false }, kinds := [], alts := [], laidByText := true, laidKinds := [.data], laidTests := true, laidLooks := .later }
def ImageMoreCardSaid : Prop := Claim7.holds Tryd.pinned (.plain (OpenSpec.ofChange imageMoreSpec)) imageMoreCard

/-- THE SECOND FORM's CARD OF 'wreckagelaw09.ImageFinds'. -/
def imageFindsUptoCard : Claim7 := { stood := { row := imageFindsUptoRow, standIns := [], harness := (true, "c063240163dc8c1e55b7d5e282c929a0146d1370cccf6685493da9705d02589a"), looks := false }, kinds := [], alts := [], laidByText := true, laidKinds := [.data], laidTests := true, laidLooks := .later }
def ImageFindsUptoCardSaid : Prop := Claim7.holds Tryd.pinned (.plain (OpenSpec.upto imageFindsSpec)) imageFindsUptoCard

/-- THE SECOND FORM's CARD OF 'wreckagelaw09.ImageMore'. -/
def imageMoreUptoCard : Claim7 := { stood := { row := imageMoreUptoRow, standIns := [], harness := (true, "c063240163dc8c1e55b7d5e282c929a0146d1370cccf6685493da9705d02589a"), looks := false }, kinds := [], alts := [], laidByText := true, laidKinds := [.data], laidTests := true, laidLooks := .later }
def ImageMoreUptoCardSaid : Prop := Claim7.holds Tryd.pinned (.plain (OpenSpec.upto imageMoreSpec)) imageMoreUptoCard
end Rows
end Go.Proofs.YtlhnlcbcikbokaaDoor
