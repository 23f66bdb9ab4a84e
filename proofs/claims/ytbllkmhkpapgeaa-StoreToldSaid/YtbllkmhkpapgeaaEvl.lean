/- What is gone through, and the live question, of layer 7; conditions: none. -/
import Derived.Test.YtbllkmhkpapgeaaEvz
namespace Go.Proofs.Ytbllkmhkpapgeaa
namespace Evt
open Go Go.RowKit Sx Lab Vec Ojt
attribute [local irreducible] Go.Calls

def fitE (o : Ob) (ps : List PO) : Bool := decide (ps.length ≤ 60) && ((ps.all fun p => fitO p.2) && fitO o)
theorem fitE_wf {o : Ob} {ps : List PO} (h : fitE o ps = true) (ho : numR o.rs) (hp : ∀ p ∈ ps, numR p.2.rs) : wfS o ∧ wfL ps ∧ ps.length ≤ 60 := by
  unfold fitE at h
  rw [Bool.and_eq_true, Bool.and_eq_true, decide_eq_true_eq, List.all_eq_true] at h
  have key : ∀ {o : Ob}, fitO o = true → numR o.rs → wfS o := fun {o} h hr => by
    have hw := (fit_wf h hr).1
    unfold fitO at h
    obtain ⟨h1, h2, h3, h4, h5, h6⟩ := of_decide_eq_true h
    exact ⟨by omega, by omega, by omega, by omega, hw.2.2.2.2⟩
  exact ⟨key h.2.2 ho, ⟨by omega, fun p hm => key (h.2.1 p hm) (hp p hm)⟩, h.1⟩

end Evt
end Go.Proofs.Ytbllkmhkpapgeaa
