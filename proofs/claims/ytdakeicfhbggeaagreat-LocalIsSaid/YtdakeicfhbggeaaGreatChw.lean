/- What the document's answer for layer 8 does with lists: has, without; conditions: names of at most 1,000 bytes, at most 1,000 objects. -/
import Derived.Test.YtdakeicfhbggeaaGreatEvs
/- Chm: What the document's answer for layer 8 does with lists: has, without; conditions: names of at most 1,000 bytes, at most 1,000 objects. -/
namespace Go.Proofs.YtdakeicfhbggeaaGreat
namespace Chm
open Go Go.RowKit Sx Lab Vec Ojt Evt
attribute [local irreducible] Go.Calls
theorem ov_nilcheck {P : Program} {E : Env} {t : Tm} {H : Hp} {ty : TypeId} {x : Operand} {a : Addr} (hx : ev t x = some (.pointer (some a))) : OpV P E (.nilCheck x) ty t H (.pointer (some a)) := by
  refine ov_of fun b w ht _ o ho _ => ⟨pure (.pointer (some a)), ?_, rfl⟩
  simp only [execOp, ho, ev_eval ht hx]
  rfl
abbrev Kt := Nm × Nm × Nm
abbrev keyO (o : Ob) : Kt := (o.k, o.s, o.n)
abbrev K3 (k : Kt) : Value := .agg #[S k.1, S k.2.1, S k.2.2]
theorem key_eq (a b : Kt) : eqAll [S a.1, S a.2.1, S a.2.2] [S b.1, S b.2.1, S b.2.2] = decide (a = b) := by
  obtain ⟨a1, a2, a3⟩ := a
  obtain ⟨b1, b2, b3⟩ := b
  rw [Bool.eq_iff_iff]
  simp [eqAll, eqB]
def hasK (ps : List PO) (k : Kt) : Bool := ps.any fun p => decide (keyO p.2 = k)
def withoutP (ps : List PO) (k : Kt) : List PO := ps.filter fun p => decide (keyO p.2 ≠ k)
theorem row_o {v : Value} {k : Hp} {os : List PO} {u : Value} {o : Ob} {e : TypeId} (h : RowB e 8 v k (os.length + 1) (os.flatMap cellsO ++ [S o.k, S o.s, S o.n, I o.ver, S o.c, .bool o.tm, .bool o.bs, u])) : RowB e 8 v k (os ++ [(u, o)]).length ((os ++ [(u, o)]).flatMap cellsO) := by
  rw [List.length_append, List.flatMap_append]
  exact h
end Chm
end Go.Proofs.YtdakeicfhbggeaaGreat
/- Chg: What the document's answer for layer 8 does with lists: graves, Get; conditions: names of at most 1,000 bytes, at most 1,000 objects. -/
namespace Go.Proofs.YtdakeicfhbggeaaGreat
namespace Chm
open Go Go.RowKit Sx Lab Vec Ojt Evt
attribute [local irreducible] Go.Calls
abbrev Gr := Kt × Int
def gravesP (gs : List Gr) (k : Kt) (fl : Int) : List Gr := gs.filter fun g => decide (g.1 ≠ k) && decide (fl < g.2)
def findK (ps : List PO) (k : Kt) : Option PO := ps.find? fun p => decide (keyO p.2 = k)
def getV (r : Option PO) : Value :=
  match r with
  | some p => .tuple #[OV p.2 p.1, .bool true]
  | none => .tuple #[.agg #[S [], S [], S [], I 0, S [], .bool false, .bool false, .slice none 0 0], .bool false]
end Chm
end Go.Proofs.YtdakeicfhbggeaaGreat
/- Chk: What the document's answer for layer 8 does with lists: Known; conditions: names of at most 1,000 bytes, at most 1,000 objects. -/
namespace Go.Proofs.YtdakeicfhbggeaaGreat
namespace Chm
open Go Go.RowKit Sx Lab Vec Ojt Evt
attribute [local irreducible] Go.Calls
def mx (p q : Int) : Int := if q > p then q else p
def knownG (gs : List Gr) (k : Kt) (n : Int) : Int := gs.foldl (fun n g => if g.1 = k then mx n g.2 else n) n
def knownC (ps : List PO) (gs : List Gr) (fl : Int) (k : Kt) : Int := knownG gs k (match findK ps k with | some p => mx fl p.2.ver | none => fl)
end Chm
end Go.Proofs.YtdakeicfhbggeaaGreat
/- Chw: What the document's answer for layer 8 does with lists: with; conditions: names of at most 1,000 bytes, at most 19,999 objects. -/
namespace Go.Proofs.YtdakeicfhbggeaaGreat
namespace Chm
open Go Go.RowKit Sx Lab Vec Ojt Evt
attribute [local irreducible] Go.Calls
def withP (ps : List PO) (p : PO) : List PO := sortP (withoutP ps (keyO p.2) ++ [p])
end Chm
end Go.Proofs.YtdakeicfhbggeaaGreat
