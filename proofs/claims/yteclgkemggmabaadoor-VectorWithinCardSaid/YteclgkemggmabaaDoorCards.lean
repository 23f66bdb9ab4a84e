/-
  DERIVED. GIVEN WITH THE SEED: THE CARDS: each row of YteclgkemggmabaaDoorRows.lean that lists a variable, with what it lists TIED to the program's text (the seventh form; the later family's looks); each row that meets fmt, with fmt's text TOLD by the authors' own Lean function (tested against real Go, not proved from fmt's source: count such statements apart). THE CARD IS WHAT COUNTS. Prove the row's statement (the work); the ties are given (YteclgkemggmabaaDoorTie.lean); close each card by the builder's one call (the guide's Derived/Test/ToyasCard.lean, 'card_holds'). Laid BY PROGRAM, IN A SANDBOX (cutbox-door.mjs). By AI agents, Wed Nov 11 2026. No macro, syntax, notation, axiom, sorry.
-/
import Derived.Test.YteclgkemggmabaaDoorRows
import GoSem.ClaimSeven
namespace Go.Proofs.YteclgkemggmabaaDoor
namespace Rows

/-- THE TIED CARD OF 'scutagelaw04.VectorTells'. -/
def vectorTellsCard : Claim7 := { stood := { row := vectorTellsRow, standIns := [], harness := (true, "de0fadc7af7f07c7eeae8880b2c04bd972b51e8fbd1f0fd379e265ddd9a5a60c"), looks := false }, kinds := [], alts := [], laidByText := true, laidKinds := [.data], laidTests := true, laidLooks := .later }
def VectorTellsCardSaid : Prop := Claim7.holds Tryd.pinned (.plain (OpenSpec.ofChange vectorTellsSpec)) vectorTellsCard

/-- THE TIED CARD OF 'scutagelaw04.VectorMakes'. -/
def vectorMakesCard : Claim7 := { stood := { row := vectorMakesRow, standIns := [], harness := (true, "de0fadc7af7f07c7eeae8880b2c04bd972b51e8fbd1f0fd379e265ddd9a5a60c"), looks := false }, kinds := [], alts := [], laidByText := true, laidKinds := [.data], laidTests := true, laidLooks := .later }
def VectorMakesCardSaid : Prop := Claim7.holds Tryd.pinned (.plain (OpenSpec.ofChange vectorMakesSpec)) vectorMakesCard

/-- THE TIED CARD OF 'scutagelaw04.VectorSums'. -/
def vectorSumsCard : Claim7 := { stood := { row := vectorSumsRow, standIns := [], harness := (true, "de0fadc7af7f07c7eeae8880b2c04bd972b51e8fbd1f0fd379e265ddd9a5a60c"), looks := false }, kinds := [], alts := [], laidByText := true, laidKinds := [.data], laidTests := true, laidLooks := .later }
def VectorSumsCardSaid : Prop := Claim7.holds Tryd.pinned (.plain (OpenSpec.ofChange vectorSumsSpec)) vectorSumsCard

/-- THE TIED CARD OF 'scutagelaw04.VectorWithin'. -/
def vectorWithinCard : Claim7 := { stood := { row := vectorWithinRow, standIns := [], harness := (true, "de0fadc7af7f07c7eeae8880b2c04bd972b51e8fbd1f0fd379e265ddd9a5a60c"), looks := false }, kinds := [], alts := [], laidByText := true, laidKinds := [.data], laidTests := true, laidLooks := .later }
def VectorWithinCardSaid : Prop := Claim7.holds Tryd.pinned (.plain (OpenSpec.ofChange vectorWithinSpec)) vectorWithinCard

/-- THE SECOND FORM's CARD OF 'scutagelaw04.VectorTells'. -/
def vectorTellsUptoCard : Claim7 := { stood := { row := vectorTellsUptoRow, standIns := [], harness := (true, "de0fadc7af7f07c7eeae8880b2c04bd972b51e8fbd1f0fd379e265ddd9a5a60c"), looks := false }, kinds := [], alts := [], laidByText := true, laidKinds := [.data], laidTests := true, laidLooks := .later }
def VectorTellsUptoCardSaid : Prop := Claim7.holds Tryd.pinned (.plain (OpenSpec.upto vectorTellsSpec)) vectorTellsUptoCard

/-- THE SECOND FORM's CARD OF 'scutagelaw04.VectorMakes'. -/
def vectorMakesUptoCard : Claim7 := { stood := { row := vectorMakesUptoRow, standIns := [], harness := (true, "de0fadc7af7f07c7eeae8880b2c04bd972b51e8fbd1f0fd379e265ddd9a5a60c"), looks := false }, kinds := [], alts := [], laidByText := true, laidKinds := [.data], laidTests := true, laidLooks := .later }
def VectorMakesUptoCardSaid : Prop := Claim7.holds Tryd.pinned (.plain (OpenSpec.upto vectorMakesSpec)) vectorMakesUptoCard

/-- THE SECOND FORM's CARD OF 'scutagelaw04.VectorSums'. -/
def vectorSumsUptoCard : Claim7 := { stood := { row := vectorSumsUptoRow, standIns := [], harness := (true, "de0fadc7af7f07c7eeae8880b2c04bd972b51e8fbd1f0fd379e265ddd9a5a60c"), looks := false }, kinds := [], alts := [], laidByText := true, laidKinds := [.data], laidTests := true, laidLooks := .later }
def VectorSumsUptoCardSaid : Prop := Claim7.holds Tryd.pinned (.plain (OpenSpec.upto vectorSumsSpec)) vectorSumsUptoCard

/-- THE SECOND FORM's CARD OF 'scutagelaw04.VectorWithin'. -/
def vectorWithinUptoCard : Claim7 := { stood := { row := vectorWithinUptoRow, standIns := [], harness := (true, "de0fadc7af7f07c7eeae8880b2c04bd972b51e8fbd1f0fd379e265ddd9a5a60c"), looks := false }, kinds := [], alts := [], laidByText := true, laidKinds := [.data], laidTests := true, laidLooks := .later }
def VectorWithinUptoCardSaid : Prop := Claim7.holds Tryd.pinned (.plain (OpenSpec.upto vectorWithinSpec)) vectorWithinUptoCard
end Rows
end Go.Proofs.YteclgkemggmabaaDoor
