/-
  NARROWER THAN 'FOR EVERY INPUT', by the rows' own cells (each row's printed sentence says how): VectorTells: laid · VectorMakes: laid · VectorSums: laid · VectorWithin: laid.
  DERIVED. THE GIVEN ROWS OF THIS SEAT. 4 by the template 'for every input the law returns true; each argument reads behind the call as it read before'; 0 by the template 'total and deterministic' (their statements: YteclgkemggmabaaDoorTotals.lean).
  GIVEN WITH THE SEED: the statements are not yours to turn. If you find one false, say at which input.
  Laid BY PROGRAM, IN A SANDBOX (cutbox-rows.mjs): the forced cells as the released guide's own fill.sh prints them over the translation af56a476fa72f50c… (all of the seat's roots in one cut). By AI agents, Wed Nov 11 2026. No macro, syntax, notation, axiom, sorry.
-/
import Derived.Test.YteclgkemggmabaaDoorChecked
import GoSem.Claim
import GoSem.ClaimJoined
import GoSem.ClaimMapViews
import Derived.JoinedTies
import Derived.KernelRfl
namespace Go.Proofs.YteclgkemggmabaaDoor
/- THE CELL 'sum', in the pinned program and in every row, IS THE sha256 OF THE DUMP (.gsa) THAT YteclgkemggmabaaDoorProg.lean LOADS. Nothing in Lean hashes anything: it is a label: what it is worth is what the hold of that sum in a sandbox is worth. -/
noncomputable def Tryd.pinned : Pinned := { name := "yteclgkemggmabaadoor", sum := "af56a476fa72f50c050249f6e3be4a96a8828a73f145c28cc70977d77f92dd34", checked := Tryd.checked }
namespace Rows
def none {H : Type} : Left H := { results := [], args := [] }

/- WHAT THE LISTED PACKAGE-LEVEL VARIABLES READ AS WHEN THE CALL BEGINS. Each datum BY PROGRAM (the guide's laid-datum.mjs) off the statement by which the dump's own 'gosem.cut.vars' lays the variable. In a bare row this is a premise. The card (YteclgkemggmabaaDoorCards.lean) ties it to the program's text. -/
def laid_scutage_quantity_scales {H : Type} : DataW H := .agg [.agg [.lit (.string [84, 105]), .lit (.int .i64 1099511627776)], .agg [.lit (.string [84]), .lit (.int .i64 1000000000000)], .agg [.lit (.string [71, 105]), .lit (.int .i64 1073741824)], .agg [.lit (.string [71]), .lit (.int .i64 1000000000)], .agg [.lit (.string [77, 105]), .lit (.int .i64 1048576)], .agg [.lit (.string [77]), .lit (.int .i64 1000000)], .agg [.lit (.string [75, 105]), .lit (.int .i64 1024)], .agg [.lit (.string [107]), .lit (.int .i64 1000)], .agg [.lit (.string []), .lit (.int .i64 1)]]

/-- 'scutagelaw04.VectorTells': WHATEVER THE INPUT: true; the input reads as it did. -/
def vectorTellsSpec : ChangeSpec := { name := "vectorTells", fn := fun _ => fun
  | [d1, d2] => { results := [.lit (.bool true)], args := [d1, d2] }
  | _ => none }
def vectorTellsRow : OpenClaim := { program := "yteclgkemggmabaadoor", sum := "af56a476fa72f50c050249f6e3be4a96a8828a73f145c28cc70977d77f92dd34", func := "scutage/scutagelaw04.VectorTells", spec := "vectorTells", inPlace := ["internal/bytealg.abigen_runtime_cmpstring", "math/bits.Add64", "math/bits.Sub64", "internal/bytealg.IndexByteString", "internal/bytealg.IndexString", "internal/abi.NoEscape", "internal/bytealg.MakeNoZero"], unfollowed := true, recurses := true, named := ["internal/bytealg.MaxLen", "scutage/quantity.scales", "math/bits.divideError", "math/bits.overflowError"], apart := false, laid := [("scutage/quantity.scales", laid_scutage_quantity_scales)] }
def VectorTellsSaid : Prop := vectorTellsRow.holds Tryd.pinned (OpenSpec.ofChange vectorTellsSpec)

/-- ITS FALSE NEIGHBOUR: 'it returns false'. Refute it at one input. -/
def vectorTellsWrong : ChangeSpec := { name := "vectorTells", fn := fun _ => fun
  | [d1, d2] => { results := [.lit (.bool false)], args := [d1, d2] }
  | _ => none }
def VectorTellsWrongFalsely : Prop := vectorTellsRow.holds Tryd.pinned (OpenSpec.ofChange vectorTellsWrong)

/-- 'scutagelaw04.VectorMakes': WHATEVER THE INPUT: true; the input reads as it did. -/
def vectorMakesSpec : ChangeSpec := { name := "vectorMakes", fn := fun _ => fun
  | [d1, d2] => { results := [.lit (.bool true)], args := [d1, d2] }
  | _ => none }
def vectorMakesRow : OpenClaim := { program := "yteclgkemggmabaadoor", sum := "af56a476fa72f50c050249f6e3be4a96a8828a73f145c28cc70977d77f92dd34", func := "scutage/scutagelaw04.VectorMakes", spec := "vectorMakes", inPlace := ["internal/bytealg.abigen_runtime_cmpstring", "math/bits.Add64", "math/bits.Sub64", "internal/bytealg.IndexByteString", "internal/bytealg.IndexString", "internal/abi.NoEscape", "internal/bytealg.MakeNoZero"], unfollowed := true, recurses := true, named := ["internal/bytealg.MaxLen", "scutage/quantity.scales", "math/bits.divideError", "math/bits.overflowError"], apart := false, laid := [("scutage/quantity.scales", laid_scutage_quantity_scales)] }
def VectorMakesSaid : Prop := vectorMakesRow.holds Tryd.pinned (OpenSpec.ofChange vectorMakesSpec)

/-- ITS FALSE NEIGHBOUR: 'it returns false'. Refute it at one input. -/
def vectorMakesWrong : ChangeSpec := { name := "vectorMakes", fn := fun _ => fun
  | [d1, d2] => { results := [.lit (.bool false)], args := [d1, d2] }
  | _ => none }
def VectorMakesWrongFalsely : Prop := vectorMakesRow.holds Tryd.pinned (OpenSpec.ofChange vectorMakesWrong)

/-- 'scutagelaw04.VectorSums': WHATEVER THE INPUT: true; the input reads as it did. -/
def vectorSumsSpec : ChangeSpec := { name := "vectorSums", fn := fun _ => fun
  | [d] => { results := [.lit (.bool true)], args := [d] }
  | _ => none }
def vectorSumsRow : OpenClaim := { program := "yteclgkemggmabaadoor", sum := "af56a476fa72f50c050249f6e3be4a96a8828a73f145c28cc70977d77f92dd34", func := "scutage/scutagelaw04.VectorSums", spec := "vectorSums", inPlace := ["internal/bytealg.abigen_runtime_cmpstring", "math/bits.Add64", "math/bits.Sub64", "internal/bytealg.IndexByteString", "internal/bytealg.IndexString", "internal/abi.NoEscape", "internal/bytealg.MakeNoZero"], unfollowed := true, recurses := true, named := ["internal/bytealg.MaxLen", "scutage/quantity.scales", "math/bits.divideError", "math/bits.overflowError"], apart := false, laid := [("scutage/quantity.scales", laid_scutage_quantity_scales)] }
def VectorSumsSaid : Prop := vectorSumsRow.holds Tryd.pinned (OpenSpec.ofChange vectorSumsSpec)

/-- ITS FALSE NEIGHBOUR: 'it returns false'. Refute it at one input. -/
def vectorSumsWrong : ChangeSpec := { name := "vectorSums", fn := fun _ => fun
  | [d] => { results := [.lit (.bool false)], args := [d] }
  | _ => none }
def VectorSumsWrongFalsely : Prop := vectorSumsRow.holds Tryd.pinned (OpenSpec.ofChange vectorSumsWrong)

/-- 'scutagelaw04.VectorWithin': WHATEVER THE INPUT: true; the input reads as it did. -/
def vectorWithinSpec : ChangeSpec := { name := "vectorWithin", fn := fun _ => fun
  | [d1, d2] => { results := [.lit (.bool true)], args := [d1, d2] }
  | _ => none }
def vectorWithinRow : OpenClaim := { program := "yteclgkemggmabaadoor", sum := "af56a476fa72f50c050249f6e3be4a96a8828a73f145c28cc70977d77f92dd34", func := "scutage/scutagelaw04.VectorWithin", spec := "vectorWithin", inPlace := ["internal/bytealg.abigen_runtime_cmpstring", "math/bits.Add64", "math/bits.Sub64", "internal/bytealg.IndexByteString", "internal/bytealg.IndexString", "internal/abi.NoEscape", "internal/bytealg.MakeNoZero"], unfollowed := true, recurses := true, named := ["internal/bytealg.MaxLen", "scutage/quantity.scales", "math/bits.divideError", "math/bits.overflowError"], apart := false, laid := [("scutage/quantity.scales", laid_scutage_quantity_scales)] }
def VectorWithinSaid : Prop := vectorWithinRow.holds Tryd.pinned (OpenSpec.ofChange vectorWithinSpec)

/-- ITS FALSE NEIGHBOUR: 'it returns false'. Refute it at one input. -/
def vectorWithinWrong : ChangeSpec := { name := "vectorWithin", fn := fun _ => fun
  | [d1, d2] => { results := [.lit (.bool false)], args := [d1, d2] }
  | _ => none }
def VectorWithinWrongFalsely : Prop := vectorWithinRow.holds Tryd.pinned (OpenSpec.ofChange vectorWithinWrong)

/- THE SECOND FORM. 'bulk': how many values and letters a reading holds, each counted each time it is reached (what is shared counts as often as it is met; a slice's spare places count too). A statement '..UptoSaid' is the law's where the arguments, and the package variables that the reading takes, are together of bulk at most 1048576: NARROWER than '..Said'. Prove '..Said' where nothing that the law and all that it calls make is longer than what came in: it says more and counts as full. Else prove '..UptoSaid'. A law counts once. -/
mutual
def uptoBulk {H : Type} : DataW H → Nat
  | .lit (.string bytes) => bytes.length + 1
  | .lit _ => 1
  | .nil => 1
  | .ptr d => uptoBulk d + 1
  | .slice elems spare => uptoBulkAll elems + uptoBulkAll spare + 1
  | .agg parts => uptoBulkAll parts + 1
  | .iface _ d => uptoBulk d + 1
  | .map entries => uptoBulkEntries entries + 1
  | .held _ => 1
def uptoBulkAll {H : Type} : List (DataW H) → Nat
  | [] => 0
  | d :: r => uptoBulk d + uptoBulkAll r
def uptoBulkEntries {H : Type} : List (Lit × DataW H) → Nat
  | [] => 0
  | x :: r => uptoBulkEntry x + uptoBulkEntries r
def uptoBulkEntry {H : Type} : Lit × DataW H → Nat
  | (.string bytes, d) => bytes.length + uptoBulk d + 1
  | (_, d) => uptoBulk d + 1
 end
def uptoSmall : (H : Type) → List (DataW H) → Bool := fun _ ds => decide (uptoBulkAll ds ≤ 1048576)
def OpenSpec.upto (s : _root_.Go.ChangeSpec) : _root_.Go.OpenSpec := { _root_.Go.OpenSpec.ofChange s with cond := some uptoSmall }

/-- 'scutagelaw04.VectorTells', WHERE WHAT IT READS IS OF BULK AT MOST 1048576: true; the input reads as it did. -/
def vectorTellsUptoRow : OpenClaim := { program := "yteclgkemggmabaadoor", sum := "af56a476fa72f50c050249f6e3be4a96a8828a73f145c28cc70977d77f92dd34", func := "scutage/scutagelaw04.VectorTells", spec := "vectorTells", inPlace := ["internal/bytealg.abigen_runtime_cmpstring", "math/bits.Add64", "math/bits.Sub64", "internal/bytealg.IndexByteString", "internal/bytealg.IndexString", "internal/abi.NoEscape", "internal/bytealg.MakeNoZero"], unfollowed := true, recurses := true, named := ["internal/bytealg.MaxLen", "scutage/quantity.scales", "math/bits.divideError", "math/bits.overflowError"], apart := false, laid := [("scutage/quantity.scales", laid_scutage_quantity_scales)], narrowed := true }
def VectorTellsUptoSaid : Prop := vectorTellsUptoRow.holds Tryd.pinned (OpenSpec.upto vectorTellsSpec)

/-- 'scutagelaw04.VectorMakes', WHERE WHAT IT READS IS OF BULK AT MOST 1048576: true; the input reads as it did. -/
def vectorMakesUptoRow : OpenClaim := { program := "yteclgkemggmabaadoor", sum := "af56a476fa72f50c050249f6e3be4a96a8828a73f145c28cc70977d77f92dd34", func := "scutage/scutagelaw04.VectorMakes", spec := "vectorMakes", inPlace := ["internal/bytealg.abigen_runtime_cmpstring", "math/bits.Add64", "math/bits.Sub64", "internal/bytealg.IndexByteString", "internal/bytealg.IndexString", "internal/abi.NoEscape", "internal/bytealg.MakeNoZero"], unfollowed := true, recurses := true, named := ["internal/bytealg.MaxLen", "scutage/quantity.scales", "math/bits.divideError", "math/bits.overflowError"], apart := false, laid := [("scutage/quantity.scales", laid_scutage_quantity_scales)], narrowed := true }
def VectorMakesUptoSaid : Prop := vectorMakesUptoRow.holds Tryd.pinned (OpenSpec.upto vectorMakesSpec)

/-- 'scutagelaw04.VectorSums', WHERE WHAT IT READS IS OF BULK AT MOST 1048576: true; the input reads as it did. -/
def vectorSumsUptoRow : OpenClaim := { program := "yteclgkemggmabaadoor", sum := "af56a476fa72f50c050249f6e3be4a96a8828a73f145c28cc70977d77f92dd34", func := "scutage/scutagelaw04.VectorSums", spec := "vectorSums", inPlace := ["internal/bytealg.abigen_runtime_cmpstring", "math/bits.Add64", "math/bits.Sub64", "internal/bytealg.IndexByteString", "internal/bytealg.IndexString", "internal/abi.NoEscape", "internal/bytealg.MakeNoZero"], unfollowed := true, recurses := true, named := ["internal/bytealg.MaxLen", "scutage/quantity.scales", "math/bits.divideError", "math/bits.overflowError"], apart := false, laid := [("scutage/quantity.scales", laid_scutage_quantity_scales)], narrowed := true }
def VectorSumsUptoSaid : Prop := vectorSumsUptoRow.holds Tryd.pinned (OpenSpec.upto vectorSumsSpec)

/-- 'scutagelaw04.VectorWithin', WHERE WHAT IT READS IS OF BULK AT MOST 1048576: true; the input reads as it did. -/
def vectorWithinUptoRow : OpenClaim := { program := "yteclgkemggmabaadoor", sum := "af56a476fa72f50c050249f6e3be4a96a8828a73f145c28cc70977d77f92dd34", func := "scutage/scutagelaw04.VectorWithin", spec := "vectorWithin", inPlace := ["internal/bytealg.abigen_runtime_cmpstring", "math/bits.Add64", "math/bits.Sub64", "internal/bytealg.IndexByteString", "internal/bytealg.IndexString", "internal/abi.NoEscape", "internal/bytealg.MakeNoZero"], unfollowed := true, recurses := true, named := ["internal/bytealg.MaxLen", "scutage/quantity.scales", "math/bits.divideError", "math/bits.overflowError"], apart := false, laid := [("scutage/quantity.scales", laid_scutage_quantity_scales)], narrowed := true }
def VectorWithinUptoSaid : Prop := vectorWithinUptoRow.holds Tryd.pinned (OpenSpec.upto vectorWithinSpec)

end Rows
end Go.Proofs.YteclgkemggmabaaDoor
