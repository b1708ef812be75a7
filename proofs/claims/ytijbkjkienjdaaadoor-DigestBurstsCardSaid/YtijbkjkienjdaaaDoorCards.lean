/-
  DERIVED. GIVEN WITH THE SEED: THE CARDS: each row of YtijbkjkienjdaaaDoorRows.lean that lists a variable, with what it lists TIED to the program's text (the seventh form; the later family's looks); each row that meets fmt, with fmt's text TOLD by the authors' own Lean function (tested against real Go, not proved from fmt's source: count such statements apart). THE CARD IS WHAT COUNTS. Prove the row's statement (the work); the ties are given (YtijbkjkienjdaaaDoorTie.lean); close each card by the builder's one call (the guide's Derived/Test/ToyasCard.lean, 'card_holds'). Laid BY PROGRAM, IN A SANDBOX (cutbox-door.mjs). By AI agents, Wed Nov 11 2026. No macro, syntax, notation, axiom, sorry.
-/
import Derived.Test.YtijbkjkienjdaaaDoorRows
import GoSem.ClaimSeven
namespace Go.Proofs.YtijbkjkienjdaaaDoor
namespace Rows

/-- THE TIED CARD OF 'capsulelaw02.Digest32'. -/
def digest32Card : Claim7 := { stood := { row := digest32Row, standIns := [], harness := (true, "80abf121f21173816e29d75e903b1fc579cc251fc16c65b05e8c4612de905347"), looks := false }, kinds := [], alts := [], laidByText := true, laidKinds := [.data, .data], laidTests := true, laidLooks := .later }
def Digest32CardSaid : Prop := Claim7.holds Tryd.pinned (.plain (OpenSpec.ofChange digest32Spec)) digest32Card

/-- THE TIED CARD OF 'capsulelaw02.Digest16'. -/
def digest16Card : Claim7 := { stood := { row := digest16Row, standIns := [], harness := (true, "80abf121f21173816e29d75e903b1fc579cc251fc16c65b05e8c4612de905347"), looks := false }, kinds := [], alts := [], laidByText := true, laidKinds := [.data, .data], laidTests := true, laidLooks := .later }
def Digest16CardSaid : Prop := Claim7.holds Tryd.pinned (.plain (OpenSpec.ofChange digest16Spec)) digest16Card

/-- THE TIED CARD OF 'capsulelaw02.DigestUpdates'. -/
def digestUpdatesCard : Claim7 := { stood := { row := digestUpdatesRow, standIns := [], harness := (true, "80abf121f21173816e29d75e903b1fc579cc251fc16c65b05e8c4612de905347"), looks := false }, kinds := [], alts := [], laidByText := true, laidKinds := [.data, .data], laidTests := true, laidLooks := .later }
def DigestUpdatesCardSaid : Prop := Claim7.holds Tryd.pinned (.plain (OpenSpec.ofChange digestUpdatesSpec)) digestUpdatesCard

/-- THE TIED CARD OF 'capsulelaw02.DigestParts'. -/
def digestPartsCard : Claim7 := { stood := { row := digestPartsRow, standIns := [], harness := (true, "80abf121f21173816e29d75e903b1fc579cc251fc16c65b05e8c4612de905347"), looks := false }, kinds := [], alts := [], laidByText := true, laidKinds := [.data, .data], laidTests := true, laidLooks := .later }
def DigestPartsCardSaid : Prop := Claim7.holds Tryd.pinned (.plain (OpenSpec.ofChange digestPartsSpec)) digestPartsCard

/-- THE TIED CARD OF 'capsulelaw02.DigestResidue'. -/
def digestResidueCard : Claim7 := { stood := { row := digestResidueRow, standIns := [], harness := (true, "80abf121f21173816e29d75e903b1fc579cc251fc16c65b05e8c4612de905347"), looks := false }, kinds := [], alts := [], laidByText := true, laidKinds := [.data, .data], laidTests := true, laidLooks := .later }
def DigestResidueCardSaid : Prop := Claim7.holds Tryd.pinned (.plain (OpenSpec.ofChange digestResidueSpec)) digestResidueCard

/-- THE TIED CARD OF 'capsulelaw02.DigestBursts'. -/
def digestBurstsCard : Claim7 := { stood := { row := digestBurstsRow, standIns := [], harness := (true, "80abf121f21173816e29d75e903b1fc579cc251fc16c65b05e8c4612de905347"), looks := false }, kinds := [], alts := [], laidByText := true, laidKinds := [.data, .data], laidTests := true, laidLooks := .later }
def DigestBurstsCardSaid : Prop := Claim7.holds Tryd.pinned (.plain (OpenSpec.ofChange digestBurstsSpec)) digestBurstsCard

/-- THE TIED CARD OF 'capsulelaw02.DigestLinear'. -/
def digestLinearCard : Claim7 := { stood := { row := digestLinearRow, standIns := [], harness := (true, "80abf121f21173816e29d75e903b1fc579cc251fc16c65b05e8c4612de905347"), looks := false }, kinds := [], alts := [], laidByText := true, laidKinds := [.data, .data], laidTests := true, laidLooks := .later }
def DigestLinearCardSaid : Prop := Claim7.holds Tryd.pinned (.plain (OpenSpec.ofChange digestLinearSpec)) digestLinearCard

/-- THE SECOND FORM's CARD OF 'capsulelaw02.Digest32'. -/
def digest32UptoCard : Claim7 := { stood := { row := digest32UptoRow, standIns := [], harness := (true, "80abf121f21173816e29d75e903b1fc579cc251fc16c65b05e8c4612de905347"), looks := false }, kinds := [], alts := [], laidByText := true, laidKinds := [.data, .data], laidTests := true, laidLooks := .later }
def Digest32UptoCardSaid : Prop := Claim7.holds Tryd.pinned (.plain (OpenSpec.upto digest32Spec)) digest32UptoCard

/-- THE SECOND FORM's CARD OF 'capsulelaw02.Digest16'. -/
def digest16UptoCard : Claim7 := { stood := { row := digest16UptoRow, standIns := [], harness := (true, "80abf121f21173816e29d75e903b1fc579cc251fc16c65b05e8c4612de905347"), looks := false }, kinds := [], alts := [], laidByText := true, laidKinds := [.data, .data], laidTests := true, laidLooks := .later }
def Digest16UptoCardSaid : Prop := Claim7.holds Tryd.pinned (.plain (OpenSpec.upto digest16Spec)) digest16UptoCard

/-- THE SECOND FORM's CARD OF 'capsulelaw02.DigestUpdates'. -/
def digestUpdatesUptoCard : Claim7 := { stood := { row := digestUpdatesUptoRow, standIns := [], harness := (true, "80abf121f21173816e29d75e903b1fc579cc251fc16c65b05e8c4612de905347"), looks := false }, kinds := [], alts := [], laidByText := true, laidKinds := [.data, .data], laidTests := true, laidLooks := .later }
def DigestUpdatesUptoCardSaid : Prop := Claim7.holds Tryd.pinned (.plain (OpenSpec.upto digestUpdatesSpec)) digestUpdatesUptoCard

/-- THE SECOND FORM's CARD OF 'capsulelaw02.DigestParts'. -/
def digestPartsUptoCard : Claim7 := { stood := { row := digestPartsUptoRow, standIns := [], harness := (true, "80abf121f21173816e29d75e903b1fc579cc251fc16c65b05e8c4612de905347"), looks := false }, kinds := [], alts := [], laidByText := true, laidKinds := [.data, .data], laidTests := true, laidLooks := .later }
def DigestPartsUptoCardSaid : Prop := Claim7.holds Tryd.pinned (.plain (OpenSpec.upto digestPartsSpec)) digestPartsUptoCard

/-- THE SECOND FORM's CARD OF 'capsulelaw02.DigestResidue'. -/
def digestResidueUptoCard : Claim7 := { stood := { row := digestResidueUptoRow, standIns := [], harness := (true, "80abf121f21173816e29d75e903b1fc579cc251fc16c65b05e8c4612de905347"), looks := false }, kinds := [], alts := [], laidByText := true, laidKinds := [.data, .data], laidTests := true, laidLooks := .later }
def DigestResidueUptoCardSaid : Prop := Claim7.holds Tryd.pinned (.plain (OpenSpec.upto digestResidueSpec)) digestResidueUptoCard

/-- THE SECOND FORM's CARD OF 'capsulelaw02.DigestBursts'. -/
def digestBurstsUptoCard : Claim7 := { stood := { row := digestBurstsUptoRow, standIns := [], harness := (true, "80abf121f21173816e29d75e903b1fc579cc251fc16c65b05e8c4612de905347"), looks := false }, kinds := [], alts := [], laidByText := true, laidKinds := [.data, .data], laidTests := true, laidLooks := .later }
def DigestBurstsUptoCardSaid : Prop := Claim7.holds Tryd.pinned (.plain (OpenSpec.upto digestBurstsSpec)) digestBurstsUptoCard

/-- THE SECOND FORM's CARD OF 'capsulelaw02.DigestLinear'. -/
def digestLinearUptoCard : Claim7 := { stood := { row := digestLinearUptoRow, standIns := [], harness := (true, "80abf121f21173816e29d75e903b1fc579cc251fc16c65b05e8c4612de905347"), looks := false }, kinds := [], alts := [], laidByText := true, laidKinds := [.data, .data], laidTests := true, laidLooks := .later }
def DigestLinearUptoCardSaid : Prop := Claim7.holds Tryd.pinned (.plain (OpenSpec.upto digestLinearSpec)) digestLinearUptoCard
end Rows
end Go.Proofs.YtijbkjkienjdaaaDoor
