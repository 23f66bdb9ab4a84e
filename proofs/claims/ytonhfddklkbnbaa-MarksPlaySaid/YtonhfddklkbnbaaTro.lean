/- The document's answer for layer 11: Below, Texts; conditions: at most 1,000 nodes, no path longer than eight. -/
import Derived.Test.YtonhfddklkbnbaaTrn
namespace Go.Proofs.Ytonhfddklkbnbaa
namespace Trt
open Go Go.RowKit Sx
attribute [local irreducible] Go.Calls

def blN (t : Tr) (s : Nm) (i : Nat) : List Nm := ((t.take i).filter fun e => decide (s ∈ pathT t e.1)).map (·.1)
theorem blN_s {t : Tr} {s : Nm} {i : Nat} {e : Nm × Nm} (he : t[i]? = some e) : blN t s (i + 1) = blN t s i ++ (if s ∈ pathT t e.1 then [e.1] else []) := by
  unfold blN
  rw [List.take_add_one, he, List.filter_append, List.map_append]
  congr 1
  show (List.filter _ [e]).map (·.1) = _
  by_cases h : s ∈ pathT t e.1
  · rw [if_pos h, List.filter_cons, if_pos (decide_eq_true h)]; rfl
  · rw [if_neg h, List.filter_cons, if_neg (by rw [decide_eq_false h]; decide)]; rfl
theorem blN_len (t : Tr) (s : Nm) (i : Nat) : (blN t s i).length ≤ i := by
  unfold blN
  rw [List.length_map]
  have := List.length_filter_le (fun e : Nm × Nm => decide (s ∈ pathT t e.1)) (t.take i)
  rw [List.length_take] at this
  omega
theorem blN_all (t : Tr) (s : Nm) : blN t s t.length = belowT t s := by unfold blN belowT; rw [List.take_length]
end Trt
end Go.Proofs.Ytonhfddklkbnbaa
