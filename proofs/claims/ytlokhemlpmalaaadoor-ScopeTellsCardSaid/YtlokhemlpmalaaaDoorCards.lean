/-
  DERIVED. GIVEN WITH THE SEED: THE CARDS: each row of YtlokhemlpmalaaaDoorRows.lean that lists a variable, with what it lists TIED to the program's text (the seventh form; the later family's looks); each row that meets fmt, with fmt's text TOLD by the authors' own Lean function (tested against real Go, not proved from fmt's source: count such statements apart). THE CARD IS WHAT COUNTS. Prove the row's statement (the work); the ties are given (YtlokhemlpmalaaaDoorTie.lean); close each card by the builder's one call (the guide's Derived/Test/ToyasCard.lean, 'card_holds'). Laid BY PROGRAM, IN A SANDBOX (cutbox-door.mjs). By AI agents, Wed Nov 11 2026. No macro, syntax, notation, axiom, sorry.
-/
import Derived.Test.YtlokhemlpmalaaaDoorRows
import GoSem.ClaimSeven
namespace Go.Proofs.YtlokhemlpmalaaaDoor
namespace Rows

/-- THE TIED CARD OF 'scutagelaw06.ScopeTells'. -/
def scopeTellsCard : Claim7 := { stood := { row := scopeTellsRow, standIns := [], harness := (true, "d73f5371127f7282de2bff2c2a81179b284f06b4fc6c40d581a963ddb3d6d50c"), looks := false }, kinds := [], alts := [], laidByText := true, laidKinds := [.data, .data, .pinned], laidTests := true, laidLooks := .later }
def ScopeTellsCardSaid : Prop := Claim7.holds Tryd.pinned (.plain (OpenSpec.ofChange scopeTellsSpec)) scopeTellsCard

/-- THE TIED CARD OF 'scutagelaw06.ScopeBack'. -/
def scopeBackCard : Claim7 := { stood := { row := scopeBackRow, standIns := [], harness := (true, "d73f5371127f7282de2bff2c2a81179b284f06b4fc6c40d581a963ddb3d6d50c"), looks := false }, kinds := [], alts := [], laidByText := true, laidKinds := [.data, .data, .pinned], laidTests := true, laidLooks := .later }
def ScopeBackCardSaid : Prop := Claim7.holds Tryd.pinned (.plain (OpenSpec.ofChange scopeBackSpec)) scopeBackCard

/-- THE TIED CARD OF 'scutagelaw06.ScopeSides'. -/
def scopeSidesCard : Claim7 := { stood := { row := scopeSidesRow, standIns := [], harness := (true, "d73f5371127f7282de2bff2c2a81179b284f06b4fc6c40d581a963ddb3d6d50c"), looks := false }, kinds := [], alts := [], laidByText := true, laidKinds := [.data, .data, .pinned], laidTests := true, laidLooks := .later }
def ScopeSidesCardSaid : Prop := Claim7.holds Tryd.pinned (.plain (OpenSpec.ofChange scopeSidesSpec)) scopeSidesCard

/-- THE SECOND FORM's CARD OF 'scutagelaw06.ScopeTells'. -/
def scopeTellsUptoCard : Claim7 := { stood := { row := scopeTellsUptoRow, standIns := [], harness := (true, "d73f5371127f7282de2bff2c2a81179b284f06b4fc6c40d581a963ddb3d6d50c"), looks := false }, kinds := [], alts := [], laidByText := true, laidKinds := [.data, .data, .pinned], laidTests := true, laidLooks := .later }
def ScopeTellsUptoCardSaid : Prop := Claim7.holds Tryd.pinned (.plain (OpenSpec.upto scopeTellsSpec)) scopeTellsUptoCard

/-- THE SECOND FORM's CARD OF 'scutagelaw06.ScopeBack'. -/
def scopeBackUptoCard : Claim7 := { stood := { row := scopeBackUptoRow, standIns := [], harness := (true, "d73f5371127f7282de2bff2c2a81179b284f06b4fc6c40d581a963ddb3d6d50c"), looks := false }, kinds := [], alts := [], laidByText := true, laidKinds := [.data, .data, .pinned], laidTests := true, laidLooks := .later }
def ScopeBackUptoCardSaid : Prop := Claim7.holds Tryd.pinned (.plain (OpenSpec.upto scopeBackSpec)) scopeBackUptoCard

/-- THE SECOND FORM's CARD OF 'scutagelaw06.ScopeSides'. -/
def scopeSidesUptoCard : Claim7 := { stood := { row := scopeSidesUptoRow, standIns := [], harness := (true, "d73f5371127f7282de2bff2c2a81179b284f06b4fc6c40d581a963ddb3d6d50c"), looks := false }, kinds := [], alts := [], laidByText := true, laidKinds := [.data, .data, .pinned], laidTests := true, laidLooks := .later }
def ScopeSidesUptoCardSaid : Prop := Claim7.holds Tryd.pinned (.plain (OpenSpec.upto scopeSidesSpec)) scopeSidesUptoCard
end Rows
end Go.Proofs.YtlokhemlpmalaaaDoor
