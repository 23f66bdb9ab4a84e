/- The live question, and what is gone through, of layer 4; conditions: the quantities' table as it was laid. -/
import Derived.Test.YthabchmfhfhcaaaVptext
import Derived.Test.YthabchmfhfhcaaaVrparse
namespace Go.Proofs.Ythabchmfhfhcaaa
namespace Vec
open Go Go.RowKit Sx Wid Lab
attribute [local irreducible] Go.Calls

theorem RepH.capr {E : Env} {H l R : Hp} {w : World} {e : TypeId} {sz n : Nat} {v : Value} {xs : List Value} (h : RepH E H w) (hr : RowB e sz v l n xs) (hc : Cut H l R) : OldCap w sz v n xs := ⟨h.oldr hr hc, hr.capd⟩
abbrev nCpu : Nm := [99, 112, 117]
abbrev nMem : Nm := [109, 101, 109]
abbrev nGpu : Nm := [103, 112, 117]
abbrev nX : Nm := [120]
def rA : List Ent := [(nMem, 5), (nCpu, 2), (nMem, 4), (nX, 0)]
def vA : List Ent := [(nCpu, 2), (nMem, 9)]
def vB : List Ent := [(nGpu, -1), (nMem, 9)]
def vC : List Ent := [(nCpu, 2), (nGpu, 1)]
def vX : List Ent := [(nX, 0)]
def vD : List Ent := [(nCpu, 2), (nMem, 8)]
def pA : List Ent := [(nCpu, 2000), (nMem, 1)]
abbrev U2 (n : Int) : Value := .int .u64 n
theorem cA : rcells rA = [S nMem, I 5, S nCpu, I 2, S nMem, I 4, S nX, I 0] := by kernel_rfl
theorem cC : vcells vC = [S nCpu, I 0, U2 2, S nGpu, I 0, U2 1] := by kernel_rfl
theorem cX : vcells vX = [S nX, I 0, U2 0] := by kernel_rfl
theorem cD : vcells vD = [S nCpu, I 0, U2 2, S nMem, I 0, U2 8] := by kernel_rfl
theorem eA : ofV rA = (vA, 0) := by kernel_rfl
theorem eB : combV true vA vC = (vB, 0) := by kernel_rfl
theorem eX : combV false vA vX = ([], 1) := by kernel_rfl
theorem eD : withinV vA vD = .tuple #[.bool false, S nMem] := by kernel_rfl
theorem e1 : parseV [99, 112, 117, 61, 50, 107, 44, 109, 101, 109, 61, 49] = (pA, 0) := by kernel_rfl
theorem e2 : parseV [109, 101, 109, 61, 49, 44, 99, 112, 117, 61, 50] = ([], 2) := by kernel_rfl
theorem e3 : parseV [99, 112, 117, 61, 48, 49, 44, 109, 101, 109] = ([], 2) := by kernel_rfl
theorem tA : textV vA = [99, 112, 117, 61, 50, 44, 109, 101, 109, 61, 57] := by kernel_rfl
theorem tB : textV vB = [103, 112, 117, 61, 45, 49, 44, 109, 101, 109, 61, 57] := by kernel_rfl
theorem fA : vfitsB vA = true := by kernel_rfl
theorem gB : rightV vB = true := by kernel_rfl
theorem hA : WV (getV vA nMem) = W2 0 9 := by kernel_rfl
theorem sAA : (vA == vA) = true := by kernel_rfl
theorem sAB : (vA == vB) = false := by kernel_rfl
theorem wf_of {es : List Ent} (h : (decide (es.length ≤ 1000) && es.all fun e => decide (e.1.length ≤ 1000) && decide (-1000000000 ≤ e.2) && decide (e.2 ≤ 1000000000)) = true) : wfV es ∧ wfR es ∧ es.length ≤ 1000 := by
  simp only [Bool.and_eq_true, decide_eq_true_eq, List.all_eq_true] at h
  refine ⟨⟨by omega, fun e he => ?_⟩, ⟨by omega, fun e he => ?_⟩, h.1⟩
  · have := h.2 e he
    unfold inW; omega
  · have := h.2 e he
    omega
theorem wA : wfV vA ∧ wfR vA ∧ vA.length ≤ 1000 := wf_of (by kernel_rfl)
theorem wB : wfV vB ∧ wfR vB ∧ vB.length ≤ 1000 := wf_of (by kernel_rfl)
theorem wC : wfV vC ∧ wfR vC ∧ vC.length ≤ 1000 := wf_of (by kernel_rfl)
theorem wX : wfV vX ∧ wfR vX ∧ vX.length ≤ 1000 := wf_of (by kernel_rfl)
theorem wD : wfV vD ∧ wfR vD ∧ vD.length ≤ 1000 := wf_of (by kernel_rfl)
theorem wR : wfV rA ∧ wfR rA ∧ rA.length ≤ 1000 := wf_of (by kernel_rfl)

theorem al_of (b : Nat) (w : World) (h : OldRow w 2 (.slice (some ⟨b, 0, none⟩) 4 4) 4 [S nMem, I 5, S nCpu, I 2, S nMem, I 4, S nX, I 0]) :
    Calls Try.prog 23 #[.slice (some ⟨b, 0, none⟩) 4 4] w fun e w' => ∃ r, e = .returned (.tuple #[r, I 0]) ∧ NewRow 51 3 w w' r vA.length (vcells vA) := by
  have := pof_ok _ rA wR.2.1 w (cA ▸ h)
  rw [eA] at this
  exact this
theorem al_cap {w : World} {b n : Nat} {xs : List Value} (h : OldRow w 3 (.slice (some ⟨b, 0, none⟩) n n) n xs) : OldCap w 3 (.slice (some ⟨b, 0, none⟩) n n) n xs := ⟨h, fun a k c e => by cases e; exact Nat.le_refl _⟩
theorem al_add (v : Value) (b : Nat) (w : World) (hv : VecCap w v vA) (h : OldRow w 3 (.slice (some ⟨b, 0, none⟩) 1 1) 1 [S nX, I 0, U2 0]) :
    Calls Try.prog 24 #[v, .slice (some ⟨b, 0, none⟩) 1 1] w fun e w' => ∃ r, e = .returned (.tuple #[r, I 1]) ∧ NewRow 51 3 w w' r ([] : List Ent).length (vcells []) := by
  have := padd_ok v _ vA vX wA.1 wX.1 wA.2.2 wX.2.2 w hv (cX ▸ al_cap h)
  rw [eX] at this
  exact this
theorem al_textA (v : Value) (w : World) (hv : VecAt w v vA) : Calls Try.prog 22 #[v] w fun e w' => e = .returned (S [99, 112, 117, 61, 50, 44, 109, 101, 109, 61, 57]) ∧ Below w.heap.size w w' := by
  have := ptext_ok v vA wA.1 wA.2.2 w hv
  rwa [tA] at this
theorem al_textB (v : Value) (w : World) (hv : VecAt w v vB) : Calls Try.prog 22 #[v] w fun e w' => e = .returned (S [103, 112, 117, 61, 45, 49, 44, 109, 101, 109, 61, 57]) ∧ Below w.heap.size w w' := by
  have := ptext_ok v vB wB.1 wB.2.2 w hv
  rwa [tB] at this
theorem al_right (v : Value) (w : World) (hv : VecAt w v vB) : Calls Try.prog 17 #[v] w fun e w' => e = .returned (.bool true) ∧ Below w.heap.size w w' := gB ▸ pright_ok v vB wB.1 w hv
theorem al_get (v : Value) (w : World) (hv : VecAt w v vA) : Calls Try.prog 20 #[v, S nMem] w fun e w' => e = .returned (W2 0 9) ∧ Below w.heap.size w w' := hA ▸ pget_ok v vA nMem wA.1 w hv
theorem al_same (v u : Value) (w : World) (hv : VecAt w v vA) (hu : VecAt w u vA) : Calls Try.prog 21 #[v, u] w fun e w' => e = .returned (.bool true) ∧ Below w.heap.size w w' := sAA ▸ psame_ok v u vA vA wA.1 wA.1 w hv hu
theorem al_not (v u : Value) (w : World) (hv : VecAt w v vA) (hu : VecAt w u vB) : Calls Try.prog 21 #[v, u] w fun e w' => e = .returned (.bool false) ∧ Below w.heap.size w w' := sAB ▸ psame_ok v u vA vB wA.1 wB.1 w hv hu

end Vec
end Go.Proofs.Ythabchmfhfhcaaa
