/- The live question, and what is gone through, of layer 4; conditions: the quantities' table as it was laid. -/
import Derived.Test.YteclgkemggmabaaDoorVptext
import Derived.Test.YteclgkemggmabaaDoorVrparse
namespace Go.Proofs.YteclgkemggmabaaDoor
namespace Vec
open Go Go.RowKit Sx Wid Lab
attribute [local irreducible] Go.Calls

theorem RepH.capr {E : Env} {H l R : Hp} {w : World} {e : TypeId} {sz n : Nat} {v : Value} {xs : List Value} (h : RepH E H w) (hr : RowB e sz v l n xs) (hc : Cut H l R) : OldCap w sz v n xs := ⟨h.oldr hr hc, hr.capd⟩
abbrev nCpu : Nm := [99, 112, 117]
abbrev nMem : Nm := [109, 101, 109]
abbrev nGpu : Nm := [103, 112, 117]
abbrev nX : Nm := [120]
def rA : List Ent := [(nMem, 5), (nCpu, 2), (nMem, 4), (nX, 0)]
def vA : List Ent := [(nCpu, 2), (nMem, 9)]
def vB : List Ent := [(nGpu, -1), (nMem, 9)]
def vC : List Ent := [(nCpu, 2), (nGpu, 1)]
def vX : List Ent := [(nX, 0)]
def vD : List Ent := [(nCpu, 2), (nMem, 8)]
def pA : List Ent := [(nCpu, 2000), (nMem, 1)]
abbrev U2 (n : Int) : Value := .int .u64 n
theorem cA : rcells rA = [S nMem, I 5, S nCpu, I 2, S nMem, I 4, S nX, I 0] := by kernel_rfl
theorem cC : vcells vC = [S nCpu, I 0, U2 2, S nGpu, I 0, U2 1] := by kernel_rfl
theorem cX : vcells vX = [S nX, I 0, U2 0] := by kernel_rfl
theorem cD : vcells vD = [S nCpu, I 0, U2 2, S nMem, I 0, U2 8] := by kernel_rfl
theorem eA : ofV rA = (vA, 0) := by kernel_rfl
theorem eB : combV true vA vC = (vB, 0) := by kernel_rfl
theorem eX : combV false vA vX = ([], 1) := by kernel_rfl
theorem eD : withinV vA vD = .tuple #[.bool false, S nMem] := by kernel_rfl
theorem e1 : parseV [99, 112, 117, 61, 50, 107, 44, 109, 101, 109, 61, 49] = (pA, 0) := by kernel_rfl
theorem e2 : parseV [109, 101, 109, 61, 49, 44, 99, 112, 117, 61, 50] = ([], 2) := by kernel_rfl
theorem e3 : parseV [99, 112, 117, 61, 48, 49, 44, 109, 101, 109] = ([], 2) := by kernel_rfl
theorem tA : textV vA = [99, 112, 117, 61, 50, 44, 109, 101, 109, 61, 57] := by kernel_rfl
theorem tB : textV vB = [103, 112, 117, 61, 45, 49, 44, 109, 101, 109, 61, 57] := by kernel_rfl
theorem fA : vfitsB vA = true := by kernel_rfl
theorem gB : rightV vB = true := by kernel_rfl
theorem hA : WV (getV vA nMem) = W2 0 9 := by kernel_rfl
theorem sAA : (vA == vA) = true := by kernel_rfl
theorem sAB : (vA == vB) = false := by kernel_rfl
theorem wf_of {es : List Ent} (h : (decide (es.length ≤ 1000) && es.all fun e => decide (e.1.length ≤ 1000) && decide (-1000000000 ≤ e.2) && decide (e.2 ≤ 1000000000)) = true) : wfV es ∧ wfR es ∧ es.length ≤ 1000 := by
  simp only [Bool.and_eq_true, decide_eq_true_eq, List.all_eq_true] at h
  refine ⟨⟨by omega, fun e he => ?_⟩, ⟨by omega, fun e he => ?_⟩, h.1⟩
  · have := h.2 e he
    unfold inW; omega
  · have := h.2 e he
    omega
theorem wA : wfV vA ∧ wfR vA ∧ vA.length ≤ 1000 := wf_of (by kernel_rfl)
theorem wB : wfV vB ∧ wfR vB ∧ vB.length ≤ 1000 := wf_of (by kernel_rfl)
theorem wC : wfV vC ∧ wfR vC ∧ vC.length ≤ 1000 := wf_of (by kernel_rfl)
theorem wX : wfV vX ∧ wfR vX ∧ vX.length ≤ 1000 := wf_of (by kernel_rfl)
theorem wD : wfV vD ∧ wfR vD ∧ vD.length ≤ 1000 := wf_of (by kernel_rfl)
theorem wR : wfV rA ∧ wfR rA ∧ rA.length ≤ 1000 := wf_of (by kernel_rfl)

theorem al_of (b : Nat) (w : World) (h : OldRow w 2 (.slice (some ⟨b, 0, none⟩) 4 4) 4 [S nMem, I 5, S nCpu, I 2, S nMem, I 4, S nX, I 0]) :
    Calls Tryd.prog 25 #[.slice (some ⟨b, 0, none⟩) 4 4] w fun e w' => ∃ r, e = .returned (.tuple #[r, I 0]) ∧ NewRow 51 3 w w' r vA.length (vcells vA) := by
  have := pof_ok _ rA wR.2.1 w (cA ▸ h)
  rw [eA] at this
  exact this
theorem al_cap {w : World} {b n : Nat} {xs : List Value} (h : OldRow w 3 (.slice (some ⟨b, 0, none⟩) n n) n xs) : OldCap w 3 (.slice (some ⟨b, 0, none⟩) n n) n xs := ⟨h, fun a k c e => by cases e; exact Nat.le_refl _⟩
theorem al_sub (v : Value) (b : Nat) (w : World) (hv : VecCap w v vA) (h : OldRow w 3 (.slice (some ⟨b, 0, none⟩) 2 2) 2 [S nCpu, I 0, U2 2, S nGpu, I 0, U2 1]) :
    Calls Tryd.prog 11 #[v, .slice (some ⟨b, 0, none⟩) 2 2] w fun e w' => ∃ r, e = .returned (.tuple #[r, I 0]) ∧ NewRow 51 3 w w' r vB.length (vcells vB) := by
  have := psub_ok v _ vA vC wA.1 wC.1 wA.2.2 wC.2.2 w hv (cC ▸ al_cap h)
  rw [eB] at this
  exact this
theorem al_add (v : Value) (b : Nat) (w : World) (hv : VecCap w v vA) (h : OldRow w 3 (.slice (some ⟨b, 0, none⟩) 1 1) 1 [S nX, I 0, U2 0]) :
    Calls Tryd.prog 9 #[v, .slice (some ⟨b, 0, none⟩) 1 1] w fun e w' => ∃ r, e = .returned (.tuple #[r, I 1]) ∧ NewRow 51 3 w w' r ([] : List Ent).length (vcells []) := by
  have := padd_ok v _ vA vX wA.1 wX.1 wA.2.2 wX.2.2 w hv (cX ▸ al_cap h)
  rw [eX] at this
  exact this
theorem al_within (v : Value) (b : Nat) (w : World) (hv : VecAt w v vA) (h : OldRow w 3 (.slice (some ⟨b, 0, none⟩) 2 2) 2 [S nCpu, I 0, U2 2, S nMem, I 0, U2 8]) :
    Calls Tryd.prog 14 #[v, .slice (some ⟨b, 0, none⟩) 2 2] w fun e w' => e = .returned (.tuple #[.bool false, S nMem]) ∧ Below w.heap.size w w' := by
  have := pwithin_ok v _ vA vD wA.1 wD.1 w hv (cD ▸ h)
  rwa [eD] at this
theorem al_parse1 (w : World) (hG : Qty.GlS w) : Calls Tryd.prog 27 #[S [99, 112, 117, 61, 50, 107, 44, 109, 101, 109, 61, 49]] w fun e w' => ∃ r, e = .returned (.tuple #[r, I 0]) ∧ NewRow 41 2 w w' r pA.length (rcells pA) := by
  have := vparse_ok [99, 112, 117, 61, 50, 107, 44, 109, 101, 109, 61, 49] (by decide) w hG
  rw [e1] at this
  exact this
theorem al_parse2 (w : World) (hG : Qty.GlS w) : Calls Tryd.prog 27 #[S [109, 101, 109, 61, 49, 44, 99, 112, 117, 61, 50]] w fun e w' => ∃ r, e = .returned (.tuple #[r, I 2]) ∧ NewRow 41 2 w w' r ([] : List Ent).length (rcells []) := by
  have := vparse_ok [109, 101, 109, 61, 49, 44, 99, 112, 117, 61, 50] (by decide) w hG
  rw [e2] at this
  exact this
theorem al_parse3 (w : World) (hG : Qty.GlS w) : Calls Tryd.prog 27 #[S [99, 112, 117, 61, 48, 49, 44, 109, 101, 109]] w fun e w' => ∃ r, e = .returned (.tuple #[r, I 2]) ∧ NewRow 41 2 w w' r ([] : List Ent).length (rcells []) := by
  have := vparse_ok [99, 112, 117, 61, 48, 49, 44, 109, 101, 109] (by decide) w hG
  rw [e3] at this
  exact this
theorem al_textA (v : Value) (w : World) (hv : VecAt w v vA) : Calls Tryd.prog 20 #[v] w fun e w' => e = .returned (S [99, 112, 117, 61, 50, 44, 109, 101, 109, 61, 57]) ∧ Below w.heap.size w w' := by
  have := ptext_ok v vA wA.1 wA.2.2 w hv
  rwa [tA] at this
theorem al_textB (v : Value) (w : World) (hv : VecAt w v vB) : Calls Tryd.prog 20 #[v] w fun e w' => e = .returned (S [103, 112, 117, 61, 45, 49, 44, 109, 101, 109, 61, 57]) ∧ Below w.heap.size w w' := by
  have := ptext_ok v vB wB.1 wB.2.2 w hv
  rwa [tB] at this
theorem al_fits (v : Value) (w : World) (hv : VecAt w v vA) : Calls Tryd.prog 18 #[v] w fun e w' => e = .returned (.bool true) ∧ Below w.heap.size w w' := fA ▸ pfits_ok v vA wA.1 w hv
theorem al_right (v : Value) (w : World) (hv : VecAt w v vB) : Calls Tryd.prog 16 #[v] w fun e w' => e = .returned (.bool true) ∧ Below w.heap.size w w' := gB ▸ pright_ok v vB wB.1 w hv
theorem al_get (v : Value) (w : World) (hv : VecAt w v vA) : Calls Tryd.prog 22 #[v, S nMem] w fun e w' => e = .returned (W2 0 9) ∧ Below w.heap.size w w' := hA ▸ pget_ok v vA nMem wA.1 w hv
theorem al_same (v u : Value) (w : World) (hv : VecAt w v vA) (hu : VecAt w u vA) : Calls Tryd.prog 24 #[v, u] w fun e w' => e = .returned (.bool true) ∧ Below w.heap.size w w' := sAA ▸ psame_ok v u vA vA wA.1 wA.1 w hv hu
theorem al_not (v u : Value) (w : World) (hv : VecAt w v vA) (hu : VecAt w u vB) : Calls Tryd.prog 24 #[v, u] w fun e w' => e = .returned (.bool false) ∧ Below w.heap.size w w' := sAB ▸ psame_ok v u vA vB wA.1 wB.1 w hv hu

set_option maxHeartbeats 16000000 in
theorem alive_ok (w : World) (hG : Qty.GlS w) : Calls Tryd.prog 8 #[] w fun e w' => e = .returned (.bool true) ∧ Below w.heap.size w w' := by
  refine calls1 (args := []) Tryd.func8 rfl rfl rfl rfl ?_
  repeat' (first | refine ao_nil ?_ | refine aq_nil ?_ | refine zov ?_ | refine zqv ?_ | refine zok ?_ | refine zqk ?_ | refine zon fun _ => ?_ | refine zow ?_ | refine zox ?_ | refine zoz ?_ | refine zoa fun vr lr hr => ?_ | (apply ao_callr2; exact wants_a; (exact oc_func rfl); (exact rfl); (first | (intro w hw; refine al_of _ w ?_; exact hw.oldr (RowB.lit rfl) cut_a)); intro vr lr hr) | (refine aw_is ?_; first | refine aw_seq ?_ | refine aw_block ?_ | refine aw_region ?_ | refine aw_skip ?_ | refine aw_exit ?_ | refine aw_ret ?_ | refine aw_label ?_ | refine aw_scope ?_ | refine zwt ?_ | refine zwf ?_ | refine zwd ?_) | refine zoT ?_ | refine zqT ?_ | refine zwT ?_ | refine zoF ?_ | refine zqF ?_ | refine zwF ?_ | refine zp ?_ | refine ib_exit ?_ | refine ib_other ?_ | refine zr1 ?_ | refine zr2 ?_ | refine zr3 ?_ | refine zrt ?_ | refine zrc ?_ | refine zrd ?_ | refine zoS (fun _ => ?_) (fun _ => ?_) | refine zqS (fun _ => ?_) (fun _ => ?_) | refine zwS (fun _ => ?_) (fun _ => ?_))
  revert vr lr hr
  intro va la ha
  repeat' (first | refine ao_nil ?_ | refine aq_nil ?_ | refine zov ?_ | refine zqv ?_ | refine zok ?_ | refine zqk ?_ | refine zon fun _ => ?_ | refine zow ?_ | refine zox ?_ | refine zoz ?_ | refine zoa fun vr lr hr => ?_ | (apply ao_callr2; exact wants_a; (exact oc_func rfl); (exact rfl); (first | (intro w hw; refine al_sub _ _ w ?_ ?_; exact RepH.capr hw ha cut_a; exact hw.oldr (RowB.lit rfl) cut_a)); intro vr lr hr) | (refine aw_is ?_; first | refine aw_seq ?_ | refine aw_block ?_ | refine aw_region ?_ | refine aw_skip ?_ | refine aw_exit ?_ | refine aw_ret ?_ | refine aw_label ?_ | refine aw_scope ?_ | refine zwt ?_ | refine zwf ?_ | refine zwd ?_) | refine zoT ?_ | refine zqT ?_ | refine zwT ?_ | refine zoF ?_ | refine zqF ?_ | refine zwF ?_ | refine zp ?_ | refine ib_exit ?_ | refine ib_other ?_ | refine zr1 ?_ | refine zr2 ?_ | refine zr3 ?_ | refine zrt ?_ | refine zrc ?_ | refine zrd ?_ | refine zoS (fun _ => ?_) (fun _ => ?_) | refine zqS (fun _ => ?_) (fun _ => ?_) | refine zwS (fun _ => ?_) (fun _ => ?_))
  revert vr lr hr
  intro vb lb hb
  repeat' (first | refine ao_nil ?_ | refine aq_nil ?_ | refine zov ?_ | refine zqv ?_ | refine zok ?_ | refine zqk ?_ | refine zon fun _ => ?_ | refine zow ?_ | refine zox ?_ | refine zoz ?_ | refine zoa fun vr lr hr => ?_ | (apply ao_callr2; exact wants_a; (exact oc_func rfl); (exact rfl); (first | (intro w hw; refine al_add _ _ w ?_ ?_; exact RepH.capr hw ha cut_a; exact hw.oldr (RowB.lit rfl) cut_a)); intro vr lr hr) | (refine aw_is ?_; first | refine aw_seq ?_ | refine aw_block ?_ | refine aw_region ?_ | refine aw_skip ?_ | refine aw_exit ?_ | refine aw_ret ?_ | refine aw_label ?_ | refine aw_scope ?_ | refine zwt ?_ | refine zwf ?_ | refine zwd ?_) | refine zoT ?_ | refine zqT ?_ | refine zwT ?_ | refine zoF ?_ | refine zqF ?_ | refine zwF ?_ | refine zp ?_ | refine ib_exit ?_ | refine ib_other ?_ | refine zr1 ?_ | refine zr2 ?_ | refine zr3 ?_ | refine zrt ?_ | refine zrc ?_ | refine zrd ?_ | refine zoS (fun _ => ?_) (fun _ => ?_) | refine zqS (fun _ => ?_) (fun _ => ?_) | refine zwS (fun _ => ?_) (fun _ => ?_))
  clear hr
  repeat' (first | refine ao_nil ?_ | refine aq_nil ?_ | refine zov ?_ | refine zqv ?_ | refine zok ?_ | refine zqk ?_ | refine zon fun _ => ?_ | refine zow ?_ | refine zox ?_ | refine zoz ?_ | refine zoa fun vr lr hr => ?_ | (apply ao_callr2; exact wants_a; (exact oc_func rfl); (exact rfl); (first | (intro w hw; refine al_parse1 w ?_; exact hG.below hw.below)); intro vr lr hr) | (refine aw_is ?_; first | refine aw_seq ?_ | refine aw_block ?_ | refine aw_region ?_ | refine aw_skip ?_ | refine aw_exit ?_ | refine aw_ret ?_ | refine aw_label ?_ | refine aw_scope ?_ | refine zwt ?_ | refine zwf ?_ | refine zwd ?_) | refine zoT ?_ | refine zqT ?_ | refine zwT ?_ | refine zoF ?_ | refine zqF ?_ | refine zwF ?_ | refine zp ?_ | refine ib_exit ?_ | refine ib_other ?_ | refine zr1 ?_ | refine zr2 ?_ | refine zr3 ?_ | refine zrt ?_ | refine zrc ?_ | refine zrd ?_ | refine zoS (fun _ => ?_) (fun _ => ?_) | refine zqS (fun _ => ?_) (fun _ => ?_) | refine zwS (fun _ => ?_) (fun _ => ?_))
  revert vr lr hr
  intro vp lp hp
  obtain ⟨g, cap, cs, rfl, rfl, hcell⟩ := RowB.cells cellsR_len hp (i := 0) (x := (nCpu, 2000)) rfl
  have hc1 : cs[0 + Int.toNat 0 * 2 + 1]? = some (I 2000) := hcell 1 _ rfl
  have hpl : pA.length = 2 := rfl
  repeat' (first | refine ao_nil ?_ | refine aq_nil ?_ | refine zov ?_ | refine zqv ?_ | refine zok ?_ | refine zqk ?_ | refine zon fun _ => ?_ | refine zow ?_ | refine zox ?_ | refine zoz ?_ | refine zoa fun vr lr hr => ?_ | ((first | apply ao_call | apply aq_call); exact wants_a; (first | exact oc_func rfl | exact oc_clos rfl rfl); (exact rfl); (first | (intro w hw; refine al_within _ _ w ?_ ?_; exact hw.oldr ha cut_a; exact hw.oldr (RowB.lit rfl) cut_a) | (intro w hw; refine al_textA _ w ?_; exact hw.oldr ha cut_a) | (intro w hw; refine al_textB _ w ?_; exact hw.oldr hb cut_a) | (intro w hw; refine al_fits _ w ?_; exact hw.oldr ha cut_a) | (intro w hw; refine al_right _ w ?_; exact hw.oldr hb cut_a) | (intro w hw; refine al_get _ w ?_; exact hw.oldr ha cut_a) | (intro w hw; refine al_same _ _ w ?_ ?_; exact hw.oldr ha cut_a; exact hw.oldr ha cut_a) | (intro w hw; refine al_not _ _ w ?_ ?_; exact hw.oldr ha cut_a; exact hw.oldr hb cut_a))) | (apply ao_callr2; exact wants_a; (exact oc_func rfl); (exact rfl); (first | (intro w hw; refine al_parse2 w ?_; exact hG.below hw.below) | (intro w hw; refine al_parse3 w ?_; exact hG.below hw.below)); intro vr lr hr) | (refine aw_is ?_; first | refine aw_cutI_at (id := 8) (fun t H => t = [(1, va), (2, I 0), (3, vb), (4, I 0), (6, I 1), (7, .slice (some ⟨g, 0, none⟩) pA.length cap), (8, I 0), (10, I 2), (12, I 2), (13, .bool false), (14, S nMem)] ∧ H = (g, .cells cs.toArray 41) :: (lb ++ (la ++ []))) ?_ ?_ | refine aw_cutI_at2 (id := 8) (fun t H => t = [(1, va), (2, I 0), (3, vb), (4, I 0), (6, I 1), (7, .slice (some ⟨g, 0, none⟩) pA.length cap), (8, I 0), (10, I 2), (12, I 2), (13, .bool false), (14, S nMem)] ∧ H = (g, .cells cs.toArray 41) :: (lb ++ (la ++ []))) ?_ ?_ | refine aw_seq ?_ | refine aw_block ?_ | refine aw_region ?_ | refine aw_skip ?_ | refine aw_exit ?_ | refine aw_ret ?_ | refine aw_label ?_ | refine aw_scope ?_ | refine zwt ?_ | refine zwf ?_ | refine zwd ?_) | refine zoT ?_ | refine zqT ?_ | refine zwT ?_ | refine zoF ?_ | refine zqF ?_ | refine zwF ?_ | refine zp ?_ | refine ib_exit ?_ | refine ib_other ?_ | refine zr1 ?_ | refine zr2 ?_ | refine zr3 ?_ | refine zrt ?_ | refine zrc ?_ | refine zrd ?_ | refine zoS (fun _ => ?_) (fun _ => ?_) | refine zqS (fun _ => ?_) (fun _ => ?_) | refine zwS (fun _ => ?_) (fun _ => ?_))
  · exact ci_normal ⟨rfl, rfl⟩ (by repeat (first | exact sub_nil | refine sub_cons rfl ?_)) hsub_a
  rintro t H ⟨rfl, rfl⟩
  repeat' (first | refine ao_nil ?_ | refine aq_nil ?_ | refine zov ?_ | refine zqv ?_ | refine zok ?_ | refine zqk ?_ | refine zon fun _ => ?_ | refine zow ?_ | refine zox ?_ | refine zoz ?_ | refine zoa fun vr lr hr => ?_ | ((first | apply ao_call | apply aq_call); exact wants_a; (first | exact oc_func rfl | exact oc_clos rfl rfl); (exact rfl); (first | (intro w hw; refine al_textA _ w ?_; exact hw.oldr ha cut_a) | (intro w hw; refine al_textB _ w ?_; exact hw.oldr hb cut_a) | (intro w hw; refine al_fits _ w ?_; exact hw.oldr ha cut_a) | (intro w hw; refine al_right _ w ?_; exact hw.oldr hb cut_a) | (intro w hw; refine al_get _ w ?_; exact hw.oldr ha cut_a) | (intro w hw; refine al_same _ _ w ?_ ?_; exact hw.oldr ha cut_a; exact hw.oldr ha cut_a) | (intro w hw; refine al_not _ _ w ?_ ?_; exact hw.oldr ha cut_a; exact hw.oldr hb cut_a))) | (refine aw_is ?_; first | refine aw_seq ?_ | refine aw_block ?_ | refine aw_region ?_ | refine aw_skip ?_ | refine aw_exit ?_ | refine aw_ret ?_ | refine aw_label ?_ | refine aw_scope ?_ | refine zwt ?_ | refine zwf ?_ | refine zwd ?_) | refine zoT ?_ | refine zqT ?_ | refine zwT ?_ | refine zoF ?_ | refine zqF ?_ | refine zwF ?_ | refine zp ?_ | refine ib_exit ?_ | refine ib_other ?_ | refine zr1 ?_ | refine zr2 ?_ | refine zr3 ?_ | refine zrt ?_ | refine zrc ?_ | refine zrd ?_ | refine zoS (fun _ => ?_) (fun _ => ?_) | refine zqS (fun _ => ?_) (fun _ => ?_) | refine zwS (fun _ => ?_) (fun _ => ?_))
  exact fun w' hw => ⟨rfl, hw.below⟩
end Vec
end Go.Proofs.YteclgkemggmabaaDoor
