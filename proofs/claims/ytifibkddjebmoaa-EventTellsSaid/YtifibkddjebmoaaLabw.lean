/- The walks of layer 1's laws: each returns true, whatever the input; conditions: none. -/
import Derived.Test.YtifibkddjebmoaaLabs
namespace Go.Proofs.Ytifibkddjebmoaa
namespace Lab
open Go Go.RowKit Sx
attribute [local irreducible] Go.Calls

def shortB (k s n : List UInt8) : Bool := decide (k.length ≤ 200) && decide (s.length ≤ 200) && decide (n.length ≤ 200)
theorem shortB_t {k s n : List UInt8} (h : shortB k s n = true) : k.length ≤ 200 ∧ s.length ≤ 200 ∧ n.length ≤ 200 := by
  simp [shortB] at h; omega

theorem right_at (l : List UInt8) (b : Bool) (h : rightB l = b) (w : World) : Calls Try.prog 44 #[S l] w fun e w' => e = .returned (.bool b) ∧ Below w.heap.size w w' := by
  rw [← h]; exact right_ok l w
theorem parseV_form (l : List UInt8) : ∃ a b c e, parseV l = .tuple #[K3 a b c, I e] ∧ ((e = 0 ∧ keyB a b c = true ∧ (b, a, c) = pieces l) ∨ e = 2) := by
  cases hq : keyB (pieces l).2.1 (pieces l).1 (pieces l).2.2
  · exact ⟨_, _, _, _, parseV_f rfl hq, .inr rfl⟩
  · exact ⟨_, _, _, _, parseV_t rfl hq, .inl ⟨rfl, hq, rfl⟩⟩
theorem eqAll_self (a b c : List UInt8) : eqAll [S a, S b, S c] [S a, S b, S c] = true := by
  simp [eqAll, eqB]

end Lab
end Go.Proofs.Ytifibkddjebmoaa
