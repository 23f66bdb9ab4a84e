/- Walks of layer 4: what is gone through; VectorTells, VectorMakes; conditions: the quantities' table as it was laid. -/
import Derived.Test.YthabchmfhfhcaaaVlaw
namespace Go.Proofs.Ythabchmfhfhcaaa
namespace Vec
open Go Go.RowKit Sx Wid Lab
attribute [local irreducible] Go.Calls

/-- Is it gone through? -/
def fitL (es : List Ent) : Bool := decide (es.length ≤ 40) && es.all fun e => decide (e.1.length ≤ 600)
theorem fitL_t {es : List Ent} (h : fitL es = true) : es.length ≤ 40 ∧ ∀ e ∈ es, e.1.length ≤ 600 := by
  simpa [fitL] using h

theorem both_len {less : Bool} {a : List Ent} : ∀ {b out o : List Ent}, bothL less a out b = some o → o.length ≤ out.length + b.length
  | [], out, o, ho => by simp only [bothL, Option.some.injEq] at ho; subst ho; simp
  | e :: b, out, o, ho => by
    unfold bothL at ho
    split at ho
    · have := both_len ho
      have hp := (put_len (nm := e.1) (n := opI less (getV a e.1) e.2) out (opI less (getV a e.1) e.2 == 0)).1
      have hp' : (putV out e.1 (opI less (getV a e.1) e.2)).length ≤ out.length + 1 := hp
      simp only [List.length_cons]
      omega
    · cases ho
theorem inW_of {x : Int} (h : inR x = true) : inW x := by rw [← inR_iff] at h; exact of_decide_eq_true h
theorem wf_comb {less : Bool} {es fs : List Ent} (h1 : wfV es) (h2 : wfV fs) (l1 : es.length ≤ 400) (l2 : fs.length ≤ 400) : wfV (combV less es fs).1 ∧ (combV less es fs).1.length ≤ es.length + fs.length := by
  unfold combV
  split
  · cases hb : bothL less es es fs with
    | none => exact ⟨⟨by simp, fun e he => by simp at he⟩, by simp⟩
    | some o =>
      have hl := both_len hb
      exact ⟨⟨by simp only; omega, both_mem (p := fun e => e.1.length ≤ 100000 ∧ inW e.2) h1.2 (fun e he n _ hn => ⟨(h2.2 e he).1, inW_of hn⟩) hb⟩, hl⟩
  · exact ⟨⟨by simp, fun e he => by simp at he⟩, by simp⟩
/-- Within, and of which name it has more. -/
def withinP (es fs : List Ent) : Bool × Nm :=
  if (rightV es && rightV fs) = true then (match overL es fs with | some n => (false, n) | none => (true, [])) else (false, [])
theorem within_eq (es fs : List Ent) : withinV es fs = .tuple #[.bool (withinP es fs).1, S (withinP es fs).2] := by
  unfold withinV withinP
  split
  · cases overL es fs <;> rfl
  · rfl
theorem wf_lit {es : List Ent} (h : fitL es = true) (hi : ∀ e ∈ es, inW e.2) : wfV es ∧ es.length ≤ 40 := by
  obtain ⟨h1, h2⟩ := fitL_t h
  exact ⟨⟨by omega, fun e he => ⟨by have := h2 e he; omega, hi e he⟩⟩, h1⟩
theorem beq_same {α : Type} [BEq α] [ReflBEq α] (a : α) : (a == a) = true := BEq.rfl

end Vec
end Go.Proofs.Ythabchmfhfhcaaa
