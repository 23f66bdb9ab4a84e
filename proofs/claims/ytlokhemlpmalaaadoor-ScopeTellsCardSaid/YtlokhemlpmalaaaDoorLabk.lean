/- Contracts of package label's functions on keys; conditions: parts of at most 1000 bytes. -/
import Derived.Test.YtlokhemlpmalaaaDoorLab
import Derived.Test.YtlokhemlpmalaaaDoorLibc
namespace Go.Proofs.YtlokhemlpmalaaaDoor
namespace Lab
open Go Go.RowKit Sx
attribute [local irreducible] Go.Calls

abbrev K3 (k s n : List UInt8) : Value := .agg #[S k, S s, S n]
def keyB (k s n : List UInt8) : Bool := rightB s && rightB k && rightB n
def joinB (k s n : List UInt8) : List UInt8 := s ++ [47] ++ k ++ [47] ++ n

def textB (k s n : List UInt8) : List UInt8 := if keyB k s n then joinB k s n else []

/-- The three pieces that Parse makes of a text. -/
def pieces (l : List UInt8) : List UInt8 × List UInt8 × List UInt8 :=
  let cut (l : List UInt8) : List UInt8 × List UInt8 := if 0 ≤ Lib.indexByte l 47 then (l.take (Lib.indexByte l 47).toNat, l.drop ((Lib.indexByte l 47).toNat + 1)) else (l, [])
  ((cut l).1, (cut (cut l).2).1, (cut (cut l).2).2)
def parseV (l : List UInt8) : Value :=
  if keyB (pieces l).2.1 (pieces l).1 (pieces l).2.2 then .tuple #[K3 (pieces l).2.1 (pieces l).1 (pieces l).2.2, I 0] else .tuple #[K3 [] [] [], I 2]

theorem cut_form (l : List UInt8) : ∃ a b f, cutV l 47 = .tuple #[S a, S b, .bool f] ∧ a.length ≤ l.length ∧ b.length ≤ l.length ∧ (a, b) = (if 0 ≤ Lib.indexByte l 47 then (l.take (Lib.indexByte l 47).toNat, l.drop ((Lib.indexByte l 47).toNat + 1)) else (l, [])) := by
  by_cases h : 0 ≤ Lib.indexByte l 47
  · exact ⟨_, _, _, by rw [cutV, if_pos h], by simp; omega, by simp, by rw [if_pos h]⟩
  · exact ⟨_, _, _, by rw [cutV, if_neg h], by simp, by simp, by rw [if_neg h]⟩

end Lab
end Go.Proofs.YtlokhemlpmalaaaDoor
