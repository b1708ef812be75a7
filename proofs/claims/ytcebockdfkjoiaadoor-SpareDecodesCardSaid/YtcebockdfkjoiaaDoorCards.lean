/-
  DERIVED. GIVEN WITH THE SEED: THE CARDS: each row of YtcebockdfkjoiaaDoorRows.lean that lists a variable, with what it lists TIED to the program's text (the seventh form; the later family's looks); each row that meets fmt, with fmt's text TOLD by the authors' own Lean function (tested against real Go, not proved from fmt's source: count such statements apart). THE CARD IS WHAT COUNTS. Prove the row's statement (the work); the ties are given (YtcebockdfkjoiaaDoorTie.lean); close each card by the builder's one call (the guide's Derived/Test/ToyasCard.lean, 'card_holds'). Laid BY PROGRAM, IN A SANDBOX (cutbox-door.mjs). By AI agents, Wed Nov 11 2026. No macro, syntax, notation, axiom, sorry.
-/
import Derived.Test.YtcebockdfkjoiaaDoorRows
import GoSem.ClaimSeven
namespace Go.Proofs.YtcebockdfkjoiaaDoor
namespace Rows

/-- THE TIED CARD OF 'capsulelaw05.SpareEncodes'. -/
def spareEncodesCard : Claim7 := { stood := { row := spareEncodesRow, standIns := [], harness := (true, "6bff1cde3a659eae3181a31fad5651d6cddfbd576e569ec344679eb44b83903e"), looks := true }, kinds := [], alts := [], laidByText := true, laidKinds := [.data], laidTests := true, laidLooks := .later }
def SpareEncodesCardSaid : Prop := Claim7.holds Tryd.pinned (.plain (OpenSpec.ofChange spareEncodesSpec)) spareEncodesCard

/-- THE TIED CARD OF 'capsulelaw05.SpareDecodes'. -/
def spareDecodesCard : Claim7 := { stood := { row := spareDecodesRow, standIns := [], harness := (true, "6bff1cde3a659eae3181a31fad5651d6cddfbd576e569ec344679eb44b83903e"), looks := true }, kinds := [], alts := [], laidByText := true, laidKinds := [.data], laidTests := true, laidLooks := .later }
def SpareDecodesCardSaid : Prop := Claim7.holds Tryd.pinned (.plain (OpenSpec.ofChange spareDecodesSpec)) spareDecodesCard

/-- THE TIED CARD OF 'capsulelaw05.SpareNames'. -/
def spareNamesCard : Claim7 := { stood := { row := spareNamesRow, standIns := [], harness := (true, "6bff1cde3a659eae3181a31fad5651d6cddfbd576e569ec344679eb44b83903e"), looks := true }, kinds := [], alts := [], laidByText := true, laidKinds := [.data, .data], laidTests := true, laidLooks := .later }
def SpareNamesCardSaid : Prop := Claim7.holds Tryd.pinned (.plain (OpenSpec.ofChange spareNamesSpec)) spareNamesCard

/-- THE TIED CARD OF 'capsulelaw05.SpareTorn'. -/
def spareTornCard : Claim7 := { stood := { row := spareTornRow, standIns := [], harness := (true, "6bff1cde3a659eae3181a31fad5651d6cddfbd576e569ec344679eb44b83903e"), looks := true }, kinds := [], alts := [], laidByText := true, laidKinds := [.data], laidTests := true, laidLooks := .later }
def SpareTornCardSaid : Prop := Claim7.holds Tryd.pinned (.plain (OpenSpec.ofChange spareTornSpec)) spareTornCard

/-- THE TIED CARD OF 'capsulelaw05.SpareHolds'. -/
def spareHoldsCard : Claim7 := { stood := { row := spareHoldsRow, standIns := [], harness := (true, "6bff1cde3a659eae3181a31fad5651d6cddfbd576e569ec344679eb44b83903e"), looks := true }, kinds := [], alts := [], laidByText := true, laidKinds := [.data], laidTests := true, laidLooks := .later }
def SpareHoldsCardSaid : Prop := Claim7.holds Tryd.pinned (.plain (OpenSpec.ofChange spareHoldsSpec)) spareHoldsCard

/-- THE SECOND FORM's CARD OF 'capsulelaw05.SpareEncodes'. -/
def spareEncodesUptoCard : Claim7 := { stood := { row := spareEncodesUptoRow, standIns := [], harness := (true, "6bff1cde3a659eae3181a31fad5651d6cddfbd576e569ec344679eb44b83903e"), looks := true }, kinds := [], alts := [], laidByText := true, laidKinds := [.data], laidTests := true, laidLooks := .later }
def SpareEncodesUptoCardSaid : Prop := Claim7.holds Tryd.pinned (.plain (OpenSpec.upto spareEncodesSpec)) spareEncodesUptoCard

/-- THE SECOND FORM's CARD OF 'capsulelaw05.SpareDecodes'. -/
def spareDecodesUptoCard : Claim7 := { stood := { row := spareDecodesUptoRow, standIns := [], harness := (true, "6bff1cde3a659eae3181a31fad5651d6cddfbd576e569ec344679eb44b83903e"), looks := true }, kinds := [], alts := [], laidByText := true, laidKinds := [.data], laidTests := true, laidLooks := .later }
def SpareDecodesUptoCardSaid : Prop := Claim7.holds Tryd.pinned (.plain (OpenSpec.upto spareDecodesSpec)) spareDecodesUptoCard

/-- THE SECOND FORM's CARD OF 'capsulelaw05.SpareNames'. -/
def spareNamesUptoCard : Claim7 := { stood := { row := spareNamesUptoRow, standIns := [], harness := (true, "6bff1cde3a659eae3181a31fad5651d6cddfbd576e569ec344679eb44b83903e"), looks := true }, kinds := [], alts := [], laidByText := true, laidKinds := [.data, .data], laidTests := true, laidLooks := .later }
def SpareNamesUptoCardSaid : Prop := Claim7.holds Tryd.pinned (.plain (OpenSpec.upto spareNamesSpec)) spareNamesUptoCard

/-- THE SECOND FORM's CARD OF 'capsulelaw05.SpareTorn'. -/
def spareTornUptoCard : Claim7 := { stood := { row := spareTornUptoRow, standIns := [], harness := (true, "6bff1cde3a659eae3181a31fad5651d6cddfbd576e569ec344679eb44b83903e"), looks := true }, kinds := [], alts := [], laidByText := true, laidKinds := [.data], laidTests := true, laidLooks := .later }
def SpareTornUptoCardSaid : Prop := Claim7.holds Tryd.pinned (.plain (OpenSpec.upto spareTornSpec)) spareTornUptoCard

/-- THE SECOND FORM's CARD OF 'capsulelaw05.SpareHolds'. -/
def spareHoldsUptoCard : Claim7 := { stood := { row := spareHoldsUptoRow, standIns := [], harness := (true, "6bff1cde3a659eae3181a31fad5651d6cddfbd576e569ec344679eb44b83903e"), looks := true }, kinds := [], alts := [], laidByText := true, laidKinds := [.data], laidTests := true, laidLooks := .later }
def SpareHoldsUptoCardSaid : Prop := Claim7.holds Tryd.pinned (.plain (OpenSpec.upto spareHoldsSpec)) spareHoldsUptoCard
end Rows
end Go.Proofs.YtcebockdfkjoiaaDoor
