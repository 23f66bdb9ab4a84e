/- AuditTells, walked: the table of any scopes, objects, and a tree is as the document says; conditions: none. -/
import Derived.Test.YtkjjlppfomidbaaGreatLai
import Derived.Test.YtkjjlppfomidbaaGreatLal
namespace Go.Proofs.YtkjjlppfomidbaaGreat
namespace Aut
open Go Go.RowKit Sx Vec Ojt Scp Lct
attribute [local irreducible] Go.Calls
structure Fit14 (ss : List Sc) (os : List Evt.PO) (ac : List Trt.Ac) : Prop where
  sl : ss.length ≤ 20
  ws : ∀ s ∈ ss, wfP s.2
  al : ac.length ≤ 60
  af : ∀ a ∈ ac, Trt.fitN a
  ol : os.length ≤ 40
  wo : ∀ p ∈ os, wfO p.2
theorem fit14_wf {ss : List Sc} {os : List Evt.PO} {ac : List Trt.Ac} (h : fit14 ss os ac = true) (hn : ∀ p ∈ os, numR p.2.rs) : Fit14 ss os ac := by
  unfold fit14 at h
  rw [Bool.and_eq_true, Bool.and_eq_true, Bool.and_eq_true, decide_eq_true_eq, List.all_eq_true] at h
  obtain ⟨h1, h2, h3, h4⟩ := h
  obtain ⟨q1, q2⟩ := fitSc_wf h1
  obtain ⟨q3, q4⟩ := Trt.fitA_wf h2
  exact ⟨q1, q2, q3, q4, h3, fun p hp => (fit_wf (h4 p hp) (hn p hp)).1⟩
instance : TyZs Tryz.prog 39 2 [(.string ⟨#[]⟩), (.string ⟨#[]⟩)] := ⟨9, (Tryz.prog.info? 9).get!, (.string ⟨#[]⟩), by kernel_rfl, by kernel_rfl, by kernel_rfl, by kernel_rfl, by kernel_rfl, by kernel_rfl⟩
end Aut
end Go.Proofs.YtkjjlppfomidbaaGreat
