/- The walks of layer 1's laws: each returns true, whatever the input; conditions: none. -/
import Derived.Test.YtkjjlppfomidbaaGreatLabs
/- Labw: The walks of layer 1's laws: each returns true, whatever the input; conditions: none. -/
namespace Go.Proofs.YtkjjlppfomidbaaGreat
namespace Lab
open Go Go.RowKit Sx
attribute [local irreducible] Go.Calls
end Lab
end Go.Proofs.YtkjjlppfomidbaaGreat
/- Labb: The walk of LabelBack: it returns true, whatever the input; conditions: none. -/
namespace Go.Proofs.YtkjjlppfomidbaaGreat
namespace Lab
open Go Go.RowKit Sx
attribute [local irreducible] Go.Calls
theorem right_len {l : List UInt8} (h : rightB l = true) : l.length ≤ 24 := by
  simp only [rightB, Bool.and_eq_true, decide_eq_true_eq] at h
  exact h.1.1.1.2
end Lab
end Go.Proofs.YtkjjlppfomidbaaGreat
/- Labo: The walk of LabelOrder: it returns true, whatever the input; conditions: none. -/
namespace Go.Proofs.YtkjjlppfomidbaaGreat
namespace Lab
open Go Go.RowKit Sx
attribute [local irreducible] Go.Calls
end Lab
end Go.Proofs.YtkjjlppfomidbaaGreat
