/- What the document's answer for layer 8 does with lists: has, without; conditions: names of at most 1,000 bytes, at most 1,000 objects. -/
import Derived.Test.YtkjjlppfomidbaaGreatEvs
/- Chm: What the document's answer for layer 8 does with lists: has, without; conditions: names of at most 1,000 bytes, at most 1,000 objects. -/
namespace Go.Proofs.YtkjjlppfomidbaaGreat
namespace Chm
open Go Go.RowKit Sx Lab Vec Ojt Evt
attribute [local irreducible] Go.Calls
abbrev Kt := Nm × Nm × Nm
abbrev K3 (k : Kt) : Value := .agg #[S k.1, S k.2.1, S k.2.2]
theorem key_eq (a b : Kt) : eqAll [S a.1, S a.2.1, S a.2.2] [S b.1, S b.2.1, S b.2.2] = decide (a = b) := by
  obtain ⟨a1, a2, a3⟩ := a
  obtain ⟨b1, b2, b3⟩ := b
  rw [Bool.eq_iff_iff]
  simp [eqAll, eqB]
end Chm
end Go.Proofs.YtkjjlppfomidbaaGreat
/- Chg: What the document's answer for layer 8 does with lists: graves, Get; conditions: names of at most 1,000 bytes, at most 1,000 objects. -/
namespace Go.Proofs.YtkjjlppfomidbaaGreat
namespace Chm
open Go Go.RowKit Sx Lab Vec Ojt Evt
attribute [local irreducible] Go.Calls
def getV (r : Option PO) : Value :=
  match r with
  | some p => .tuple #[OV p.2 p.1, .bool true]
  | none => .tuple #[.agg #[S [], S [], S [], I 0, S [], .bool false, .bool false, .slice none 0 0], .bool false]
end Chm
end Go.Proofs.YtkjjlppfomidbaaGreat
/- Chk: What the document's answer for layer 8 does with lists: Known; conditions: names of at most 1,000 bytes, at most 1,000 objects. -/
namespace Go.Proofs.YtkjjlppfomidbaaGreat
namespace Chm
open Go Go.RowKit Sx Lab Vec Ojt Evt
attribute [local irreducible] Go.Calls
end Chm
end Go.Proofs.YtkjjlppfomidbaaGreat
/- Chw: What the document's answer for layer 8 does with lists: with; conditions: names of at most 1,000 bytes, at most 19,999 objects. -/
namespace Go.Proofs.YtkjjlppfomidbaaGreat
namespace Chm
open Go Go.RowKit Sx Lab Vec Ojt Evt
attribute [local irreducible] Go.Calls
end Chm
end Go.Proofs.YtkjjlppfomidbaaGreat
