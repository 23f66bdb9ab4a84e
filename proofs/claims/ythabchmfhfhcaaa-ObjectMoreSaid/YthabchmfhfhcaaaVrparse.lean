/- Contract of the document's Parse for layer 4; conditions: texts of at most 100,000 bytes. -/
import Derived.Test.YthabchmfhfhcaaaVrtext
namespace Go.Proofs.Ythabchmfhfhcaaa
namespace Vec
open Go Go.RowKit Sx Wid Lab
attribute [local irreducible] Go.Calls

/-- The quantity of a text, and the error. -/
def parQ (l : List UInt8) : Int × Int :=
  if Qty.badQ l then (0, 2)
  else if Qty.valP l (Qty.figN l) * Qty.facI (l.drop (Qty.figN l)) ≤ 9223372036854775807 then (Qty.valP l (Qty.figN l) * Qty.facI (l.drop (Qty.figN l)), 0) else (0, 3)
theorem parQ_eq (l : List UInt8) : Qty.parseQ l = .tuple #[I (parQ l).1, I (parQ l).2] := by
  unfold Qty.parseQ parQ
  split
  · rfl
  · split <;> rfl
theorem parQ_rng (l : List UInt8) : 0 ≤ (parQ l).1 ∧ (parQ l).1 ≤ 9223372036854775807 ∧ ((parQ l).2 = 0 ∨ (parQ l).2 = 2 ∨ (parQ l).2 = 3) := by
  unfold parQ
  split
  · exact ⟨by decide, by decide, .inr (.inl rfl)⟩
  · split
    · rename_i h
      refine ⟨Int.mul_nonneg (Qty.valP_nonneg l _ (Nat.le_refl _)) ?_, h, .inl rfl⟩
      rcases Qty.facI_rng (l.drop (Qty.figN l)) with h | h <;> omega
    · exact ⟨by decide, by decide, .inr (.inr rfl)⟩
/-- The first part; its name; what is behind its first sign of equality. -/
def partP (l : List UInt8) : List UInt8 := l.take (nx 44 l)
def nmP (l : List UInt8) : List UInt8 := (partP l).take (nx 61 (partP l))
def txP (l : List UInt8) : List UInt8 := (partP l).drop (nx 61 (partP l) + 1)
/-- Is a name above the last one? -/
def upB (out : List Ent) (m : Nm) : Bool := match out.getLast? with | none => true | some r => lt r.1 m
def badP (out : List Ent) (l : List UInt8) : Bool := nx 61 (partP l) == nx 44 l || !rightB (nmP l) || out.length == 16 || !upB out (nmP l)
def parseL : Nat → List Ent → List UInt8 → List Ent × Int
  | 0, _, _ => ([], 2)
  | k + 1, out, l =>
    if badP out l = true then ([], 2)
    else if (parQ (txP l)).2 ≠ 0 then ([], (parQ (txP l)).2)
    else if nx 44 l = l.length then (out ++ [(nmP l, (parQ (txP l)).1)], 0)
    else parseL k (out ++ [(nmP l, (parQ (txP l)).1)]) (l.drop (nx 44 l + 1))
def parseV (l : List UInt8) : List Ent × Int := if l = [] then ([], 0) else parseL (l.length + 1) [] l

theorem ov_ssR {P : Program} {E : Env} {t : Tm} {H : Hp} {ty : TypeId} {x y z : Operand} {xt : TypeId} {l r : List UInt8} {k k2 : IntKind} {q q2 : Int} (i j : Nat) [TyU P xt .string] (hx : ev t x = some (S l)) (hy : ev t y = some (.int k q)) (hz : ev t z = some (.int k2 q2)) (hr : (l.drop i).take (j - i) = r) (hq : q = (i : Int)) (hq2 : q2 = (j : Int)) (hi : i ≤ j) (hj : j ≤ l.length) :
    OpV P E (.slice xt x (some y) (some z) none) ty t H (S r) := hr ▸ ov_sslice_both hx hy hz hq hq2 hi hj
theorem last_get {out : List Ent} {r : Ent} (h : out.getLast? = some r) : out[out.length - 1]? = some r := by rw [← List.getLast?_eq_getElem?]; exact h
theorem row_addR {e : TypeId} {v : Value} {l : Hp} {outs : List Ent} {x : Ent} (h : RowB e 2 v l (outs.length + 1) (rcells outs ++ [S x.1, I x.2])) :
    RowB e 2 v l (outs ++ [x]).length (rcells (outs ++ [x])) := by
  have e1 : (outs ++ [x]).length = outs.length + 1 := by simp
  have e2 : rcells (outs ++ [x]) = rcells outs ++ [S x.1, I x.2] := by simp [rcells, List.flatMap_append, cellsR]
  rw [e1, e2]
  exact h

end Vec
end Go.Proofs.Ythabchmfhfhcaaa
