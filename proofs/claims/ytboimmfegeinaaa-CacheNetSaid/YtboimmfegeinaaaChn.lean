/- What the document's answer for layer 8 does: what is there behind an event; conditions: names of at most 1,000 bytes, at most 19,999 objects. -/
import Derived.Test.YtboimmfegeinaaaChr
namespace Go.Proofs.Ytboimmfegeinaaa
namespace Chm
open Go Go.RowKit Sx Lab Vec Ojt Evt
attribute [local irreducible] Go.Calls

/-- Short names of graves. -/
def wfG (gs : List Gr) : Prop := gs.length ≤ 90000 ∧ ∀ g ∈ gs, g.1.1.length ≤ 1000 ∧ g.1.2.1.length ≤ 1000 ∧ g.1.2.2.length ≤ 1000
def nxP (ps : List PO) (gs : List Gr) (fl : Int) (kind : Int) (p : PO) (ver : Int) (qs : List PO) : List PO × List Gr × Int :=
  if kind = 0 then (withP ps p, gravesP gs (keyO p.2) fl, fl)
  else if kind = 1 then (withoutP ps (keyO p.2), insG (keyO p.2, p.2.ver) (gravesP gs (keyO p.2) fl), fl)
  else if kind = 2 then (rlP ps gs fl qs ver, gravesP gs k0 ver, ver)
  else (ps, gravesP gs k0 ver, ver)
theorem nxP_obs (ps : List PO) (gs : List Gr) (fl : Int) (kind : Int) (p : PO) (ver : Int) (qs : List PO) :
    nxO ⟨obs ps, gs, fl⟩ kind p.2 ver (obs qs) = ⟨obs (nxP ps gs fl kind p ver qs).1, (nxP ps gs fl kind p ver qs).2.1, (nxP ps gs fl kind p ver qs).2.2⟩ := by
  unfold nxO nxP
  by_cases h0 : kind = 0
  · rw [if_pos h0, if_pos h0]; simp only [wiO_obs]
  rw [if_neg h0, if_neg h0]
  by_cases h1 : kind = 1
  · rw [if_pos h1, if_pos h1]; simp only [woO_obs]
  rw [if_neg h1, if_neg h1]
  by_cases h2 : kind = 2
  · rw [if_pos h2, if_pos h2]; simp only [rlP_obs]
  rw [if_neg h2, if_neg h2]
/-- A cache in new memory: its objects lie in new memory, or are those that there were. -/
def DNext (v0 : Value) (ps0 : List PO) (x : List PO × List Gr × Int) (r : Value) (l : Hp) : Prop :=
  ∃ b v u lo lg, r = .pointer (some ⟨b, 0, none⟩) ∧ l = (b, .cells #[v, u, I x.2.2] 51 (0, 0)) :: (lo ++ lg) ∧ (RowB 40 8 v lo x.1.length (x.1.flatMap cellsO) ∨ (v = v0 ∧ lo = [] ∧ x.1 = ps0)) ∧ RowB 147 4 u lg x.2.1.length (x.2.1.flatMap cellsG)
theorem permA {α : Type} (x : α) (a b R : List α) : (x :: (b ++ (a ++ R))).Perm ((x :: (a ++ b)) ++ R) := by
  refine List.Perm.cons x ?_
  rw [← List.append_assoc]
  exact List.Perm.append_right R List.perm_append_comm
theorem permB {α : Type} (x : α) (a b R : List α) : (x :: (a ++ (b ++ R))).Perm ((x :: (a ++ b)) ++ R) := by
  refine List.Perm.cons x ?_
  rw [← List.append_assoc]
  exact List.Perm.refl _
theorem permC {α : Type} (x : α) (b R : List α) : (x :: (b ++ R)).Perm ((x :: ([] ++ b)) ++ R) := List.Perm.refl _
theorem grow_o2 {v : Value} {k : Hp} {os : List Gr} {g g2 : Gr} {e : TypeId} (h : RowB e 4 v k (os.length + 1 + 1) (os.flatMap cellsG ++ [S g.1.1, S g.1.2.1, S g.1.2.2, I g.2] ++ [S g2.1.1, S g2.1.2.1, S g2.1.2.2, I g2.2])) : RowB e 4 v k (os ++ [g] ++ [g2]).length ((os ++ [g] ++ [g2]).flatMap cellsG) := by
  rw [List.length_append, List.length_append, List.flatMap_append, List.flatMap_append]
  simpa [cellsG] using h
theorem insG_len (g : Gr) : ∀ (l : List Gr), (insG g l).length = l.length + 1
  | [] => rfl
  | y :: r => by
    unfold insG
    split
    · rfl
    · rw [List.length_cons, insG_len g r, List.length_cons]

end Chm
end Go.Proofs.Ytboimmfegeinaaa
