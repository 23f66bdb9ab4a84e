/-
  No cell of these rows narrows 'for every input' (looked for: loops, veiled, ifaces, maps, wideKeys, modest, calm, conditions, laid).
  DERIVED. THE GIVEN ROWS OF THIS SEAT. 3 by the template 'for every input the law returns true; each argument reads behind the call as it read before'; 0 by the template 'total and deterministic' (their statements: YtpenogailhlcaaaTotals.lean).
  GIVEN WITH THE SEED: the statements are not yours to turn. If you find one false, say at which input.
  Laid BY PROGRAM, IN A SANDBOX (cutbox-rows.mjs): the forced cells as the released guide's own fill.sh prints them over the translation ad20d756ab0d9eaa… (all of the seat's roots in one cut). By AI agents, Wed Nov 11 2026. No macro, syntax, notation, axiom, sorry.
-/
import Derived.Test.YtpenogailhlcaaaChecked
import GoSem.Claim
import GoSem.ClaimJoined
import GoSem.ClaimMapViews
import Derived.JoinedTies
import Derived.KernelRfl
namespace Go.Proofs.Ytpenogailhlcaaa
/- THE CELL 'sum', in the pinned program and in every row, IS THE sha256 OF THE DUMP (.gsa) THAT YtpenogailhlcaaaProg.lean LOADS. Nothing in Lean hashes anything: it is a label: what it is worth is what the hold of that sum in a sandbox is worth. -/
noncomputable def Try.pinned : Pinned := { name := "ytpenogailhlcaaa", sum := "ad20d756ab0d9eaa62a086870f3ec19e3a140e93edb8c769e03dcbe2d38e7b09", checked := Try.checked }
namespace Rows
def none {H : Type} : Left H := { results := [], args := [] }

/-- 'scutagelaw10.FeedPlays': WHATEVER THE INPUT: true; the input reads as it did. -/
def feedPlaysSpec : ChangeSpec := { name := "feedPlays", fn := fun _ => fun
  | [d] => { results := [.lit (.bool true)], args := [d] }
  | _ => none }
def feedPlaysRow : OpenClaim := { program := "ytpenogailhlcaaa", sum := "ad20d756ab0d9eaa62a086870f3ec19e3a140e93edb8c769e03dcbe2d38e7b09", func := "scutage/scutagelaw10.FeedPlays", spec := "feedPlays", unfollowed := true, recurses := true, plainKeys := false, apart := false }
def FeedPlaysSaid : Prop := feedPlaysRow.holds Try.pinned (OpenSpec.ofChange feedPlaysSpec)

/-- ITS FALSE NEIGHBOUR: 'it returns false'. Refute it at one input. -/
def feedPlaysWrong : ChangeSpec := { name := "feedPlays", fn := fun _ => fun
  | [d] => { results := [.lit (.bool false)], args := [d] }
  | _ => none }
def FeedPlaysWrongFalsely : Prop := feedPlaysRow.holds Try.pinned (OpenSpec.ofChange feedPlaysWrong)

/-- 'scutagelaw10.FeedSafe': WHATEVER THE INPUT: true; the input reads as it did. -/
def feedSafeSpec : ChangeSpec := { name := "feedSafe", fn := fun _ => fun
  | [d] => { results := [.lit (.bool true)], args := [d] }
  | _ => none }
def feedSafeRow : OpenClaim := { program := "ytpenogailhlcaaa", sum := "ad20d756ab0d9eaa62a086870f3ec19e3a140e93edb8c769e03dcbe2d38e7b09", func := "scutage/scutagelaw10.FeedSafe", spec := "feedSafe", unfollowed := true, recurses := true, plainKeys := false, apart := false }
def FeedSafeSaid : Prop := feedSafeRow.holds Try.pinned (OpenSpec.ofChange feedSafeSpec)

/-- ITS FALSE NEIGHBOUR: 'it returns false'. Refute it at one input. -/
def feedSafeWrong : ChangeSpec := { name := "feedSafe", fn := fun _ => fun
  | [d] => { results := [.lit (.bool false)], args := [d] }
  | _ => none }
def FeedSafeWrongFalsely : Prop := feedSafeRow.holds Try.pinned (OpenSpec.ofChange feedSafeWrong)

/-- 'scutagelaw10.FeedTurn': WHATEVER THE INPUT: true; the input reads as it did. -/
def feedTurnSpec : ChangeSpec := { name := "feedTurn", fn := fun _ => fun
  | [d] => { results := [.lit (.bool true)], args := [d] }
  | _ => none }
def feedTurnRow : OpenClaim := { program := "ytpenogailhlcaaa", sum := "ad20d756ab0d9eaa62a086870f3ec19e3a140e93edb8c769e03dcbe2d38e7b09", func := "scutage/scutagelaw10.FeedTurn", spec := "feedTurn", unfollowed := true, recurses := true, plainKeys := false, apart := false }
def FeedTurnSaid : Prop := feedTurnRow.holds Try.pinned (OpenSpec.ofChange feedTurnSpec)

/-- ITS FALSE NEIGHBOUR: 'it returns false'. Refute it at one input. -/
def feedTurnWrong : ChangeSpec := { name := "feedTurn", fn := fun _ => fun
  | [d] => { results := [.lit (.bool false)], args := [d] }
  | _ => none }
def FeedTurnWrongFalsely : Prop := feedTurnRow.holds Try.pinned (OpenSpec.ofChange feedTurnWrong)

/- THE SECOND FORM. 'bulk': how many values and letters a reading holds, each counted each time it is reached (what is shared counts as often as it is met; a slice's spare places count too). A statement '..UptoSaid' is the law's where the arguments, and the package variables that the reading takes, are together of bulk at most 1048576: NARROWER than '..Said'. Prove '..Said' where nothing that the law and all that it calls make is longer than what came in: it says more and counts as full. Else prove '..UptoSaid'. A law counts once. -/
mutual
def uptoBulk {H : Type} : DataW H → Nat
  | .lit (.string bytes) => bytes.length + 1
  | .lit _ => 1
  | .nil => 1
  | .ptr d => uptoBulk d + 1
  | .slice elems spare => uptoBulkAll elems + uptoBulkAll spare + 1
  | .agg parts => uptoBulkAll parts + 1
  | .iface _ d => uptoBulk d + 1
  | .map entries => uptoBulkEntries entries + 1
  | .held _ => 1
def uptoBulkAll {H : Type} : List (DataW H) → Nat
  | [] => 0
  | d :: r => uptoBulk d + uptoBulkAll r
def uptoBulkEntries {H : Type} : List (Lit × DataW H) → Nat
  | [] => 0
  | x :: r => uptoBulkEntry x + uptoBulkEntries r
def uptoBulkEntry {H : Type} : Lit × DataW H → Nat
  | (.string bytes, d) => bytes.length + uptoBulk d + 1
  | (_, d) => uptoBulk d + 1
 end
def uptoSmall : (H : Type) → List (DataW H) → Bool := fun _ ds => decide (uptoBulkAll ds ≤ 1048576)
def OpenSpec.upto (s : _root_.Go.ChangeSpec) : _root_.Go.OpenSpec := { _root_.Go.OpenSpec.ofChange s with cond := some uptoSmall }

/-- 'scutagelaw10.FeedPlays', WHERE WHAT IT READS IS OF BULK AT MOST 1048576: true; the input reads as it did. -/
def feedPlaysUptoRow : OpenClaim := { program := "ytpenogailhlcaaa", sum := "ad20d756ab0d9eaa62a086870f3ec19e3a140e93edb8c769e03dcbe2d38e7b09", func := "scutage/scutagelaw10.FeedPlays", spec := "feedPlays", unfollowed := true, recurses := true, plainKeys := false, apart := false, narrowed := true }
def FeedPlaysUptoSaid : Prop := feedPlaysUptoRow.holds Try.pinned (OpenSpec.upto feedPlaysSpec)

/-- 'scutagelaw10.FeedSafe', WHERE WHAT IT READS IS OF BULK AT MOST 1048576: true; the input reads as it did. -/
def feedSafeUptoRow : OpenClaim := { program := "ytpenogailhlcaaa", sum := "ad20d756ab0d9eaa62a086870f3ec19e3a140e93edb8c769e03dcbe2d38e7b09", func := "scutage/scutagelaw10.FeedSafe", spec := "feedSafe", unfollowed := true, recurses := true, plainKeys := false, apart := false, narrowed := true }
def FeedSafeUptoSaid : Prop := feedSafeUptoRow.holds Try.pinned (OpenSpec.upto feedSafeSpec)

/-- 'scutagelaw10.FeedTurn', WHERE WHAT IT READS IS OF BULK AT MOST 1048576: true; the input reads as it did. -/
def feedTurnUptoRow : OpenClaim := { program := "ytpenogailhlcaaa", sum := "ad20d756ab0d9eaa62a086870f3ec19e3a140e93edb8c769e03dcbe2d38e7b09", func := "scutage/scutagelaw10.FeedTurn", spec := "feedTurn", unfollowed := true, recurses := true, plainKeys := false, apart := false, narrowed := true }
def FeedTurnUptoSaid : Prop := feedTurnUptoRow.holds Try.pinned (OpenSpec.upto feedTurnSpec)

end Rows
end Go.Proofs.Ytpenogailhlcaaa
