/- The live question, and what is gone through, of layer 5; conditions: none. -/
import Derived.Test.YthabchmfhfhcaaaOchg
namespace Go.Proofs.Ythabchmfhfhcaaa
namespace Ojt
open Go Go.RowKit Sx Wid Lab Vec
attribute [local irreducible] Go.Calls

def lA : List Ent := [(nCpu, 2), (nObj, 3)]
def vQ : List Ent := [(nCpu, 2), (nObj, 4)]
def oA : Ob := ⟨[112, 111, 100], [97], [120], 1, [], false, false, lA⟩
def oP : Ob := ⟨[112, 111, 100], [97], [120], 0, [], false, false, lA⟩
theorem cL : rcells lA = [S nCpu, I 2, S nObj, I 3] := by kernel_rfl
theorem qA : chargeO oA = (vQ, 0) := by kernel_rfl
theorem qP : chargeO oP = ([], 1) := by kernel_rfl
theorem tQ : textV vQ = [99, 112, 117, 61, 50, 44, 111, 98, 106, 101, 99, 116, 115, 61, 52] := by kernel_rfl
theorem rA1 : rightO oA = true := by kernel_rfl
theorem rP1 : rightO oP = false := by kernel_rfl
theorem sA1 : sameO oA oA = true := by kernel_rfl
theorem sP1 : sameO oA oP = false := by kernel_rfl
theorem lP1 : alikeO oA oP = true := by kernel_rfl
theorem wQ : wfV vQ ∧ wfR vQ ∧ vQ.length ≤ 1000 := wf_of (by kernel_rfl)
theorem wL : wfR lA := (wf_of (by kernel_rfl)).2.1
theorem wOA : wfO oA := ⟨by decide, by decide, by decide, by decide, wL⟩
theorem wOP : wfO oP := ⟨by decide, by decide, by decide, by decide, wL⟩
abbrev OA (ver : Int) (v : Value) : Value := OC [112, 111, 100] [97] [120] ver [] false false v
abbrev LAt (w : World) (v : Value) : Prop := OldRow w 2 v 2 [S nCpu, I 2, S nObj, I 3]
theorem at_of {w : World} {v : Value} (h : LAt w v) : ResAt w v lA := by unfold ResAt; rw [cL]; exact h
theorem at_of2 {w : World} {v : Value} (h : OldRow w 2 v lA.length (rcells lA)) : LAt w v := by unfold LAt; rw [← cL]; exact h

theorem al_charge (v : Value) (w : World) (h : LAt w v) : Calls Try.prog 7 #[OA 1 v] w fun e w' => ∃ r, e = .returned (.tuple #[r, I 0]) ∧ NewRow 51 3 w w' r vQ.length (vcells vQ) := by
  have := charge_ok oA v wOA w (at_of h)
  rw [qA] at this
  exact this
theorem al_chargeP (v : Value) (w : World) (h : LAt w v) : Calls Try.prog 7 #[OA 0 v] w fun e w' => ∃ r, e = .returned (.tuple #[r, I 1]) ∧ NewRow 51 3 w w' r ([] : List Ent).length (vcells []) := by
  have := charge_ok oP v wOP w (at_of h)
  rw [qP] at this
  exact this
theorem al_textQ (v : Value) (w : World) (hv : VecAt w v vQ) : Calls Try.prog 22 #[v] w fun e w' => e = .returned (S [99, 112, 117, 61, 50, 44, 111, 98, 106, 101, 99, 116, 115, 61, 52]) ∧ Below w.heap.size w w' := by
  have := ptext_ok v vQ wQ.1 wQ.2.2 w hv
  rwa [tQ] at this
theorem al_right (v : Value) (w : World) (h : LAt w v) : Calls Try.prog 12 #[OA 1 v] w fun e w' => e = .returned (.bool true) ∧ Below w.heap.size w w' := rA1 ▸ right_ok oA v wOA w (at_of h)
theorem al_rightP (v : Value) (w : World) (h : LAt w v) : Calls Try.prog 12 #[OA 0 v] w fun e w' => e = .returned (.bool false) ∧ Below w.heap.size w w' := rP1 ▸ right_ok oP v wOP w (at_of h)
theorem al_own (v : Value) (w : World) (h : LAt w v) : Calls Try.prog 11 #[OA 1 v] w fun e w' => ∃ r, e = .returned (OA 1 r) ∧ NewRow 43 2 w w' r lA.length (rcells lA) := own_ok oA v wOA w (at_of h)
theorem al_same (v u : Value) (w : World) (h : LAt w v) (g : LAt w u) : Calls Try.prog 14 #[OA 1 v, OA 1 u] w fun e w' => e = .returned (.bool true) ∧ Below w.heap.size w w' := sA1 ▸ same_ok oA oA v u wOA wOA w (at_of h) (at_of g)
theorem al_sameP (v u : Value) (w : World) (h : LAt w v) (g : LAt w u) : Calls Try.prog 14 #[OA 1 v, OA 0 u] w fun e w' => e = .returned (.bool false) ∧ Below w.heap.size w w' := sP1 ▸ same_ok oA oP v u wOA wOP w (at_of h) (at_of g)
theorem al_alike (v u : Value) (w : World) (h : LAt w v) (g : LAt w u) : Calls Try.prog 15 #[OA 1 v, OA 0 u] w fun e w' => e = .returned (.bool true) ∧ Below w.heap.size w w' := lP1 ▸ alike_ok oA oP v u wOA wOP w (at_of h) (at_of g)

set_option maxHeartbeats 16000000 in
theorem alive_ok (w : World) : Calls Try.prog 6 #[] w fun e w' => e = .returned (.bool true) ∧ Below w.heap.size w w' := by
  refine calls1 (args := []) Try.func6 rfl rfl rfl rfl ?_
  repeat' (first | refine aw_seq ?_ | refine zz ?_ | refine zon fun _ => ?_ | refine zoa fun vr lr hr => ?_ | (apply ao_callr2; exact wants_a; (exact oc_func rfl); (exact rfl); (first | (intro w hw; refine al_charge _ w ?_; exact hw.oldr (RowB.lit rfl) cut_a)); intro vr lr hr) | refine zoS (fun _ => ?_) (fun _ => ?_) | refine zqS (fun _ => ?_) (fun _ => ?_) | refine zwS (fun _ => ?_) (fun _ => ?_))
  revert vr lr hr
  intro va la ha
  repeat' (first | (apply ao_nilh; exact hsub_a) | apply ao_nil | apply aq_nil | apply ah_end | ((first | apply ao_val | apply aq_val | (apply ah_take; (exact rfl))); exact wants_a; exact ov_a; (exact rfl)) | ((first | apply ao_skip | apply aq_skip | (apply ah_skip; (exact rfl))); exact nots_a; (exact rfl)) | (refine ao_is ?_; first | (apply ao_new; exact wants_a; exact on_a; (exact rfl); intro _) | (apply ao_store; exact wants_a; exact ow_a; exact upd_a) | (apply ao_valw; exact wants_a; exact ox_a; (exact rfl); exact upd_a) | (apply ao_skip0; exact nots_a) | (apply ao_append; exact wants_a; (exact rfl); assumption; (exact rfl); exact cut_a; exact has_a; (exact rfl); (exact rfl); omega; omega; omega; (exact rfl); intro vr lr hr)) | ((first | apply ao_call | apply aq_call); exact wants_a; (first | exact oc_func rfl | exact oc_clos rfl rfl); (exact rfl); (first | (intro w hw; refine al_textQ _ w ?_; exact hw.oldr ha cut_a) | (intro w hw; refine al_right _ w ?_; exact hw.oldr (RowB.lit rfl) cut_a) | (intro w hw; refine al_rightP _ w ?_; exact hw.oldr (RowB.lit rfl) cut_a) | (intro w hw; refine al_same _ _ w ?_ ?_; exact hw.oldr (RowB.lit rfl) cut_a; exact at_of2 (hw.oldr (by assumption) cut_a)) | (intro w hw; refine al_sameP _ _ w ?_ ?_; exact hw.oldr (RowB.lit rfl) cut_a; exact hw.oldr (RowB.lit rfl) cut_a) | (intro w hw; refine al_alike _ _ w ?_ ?_; exact hw.oldr (RowB.lit rfl) cut_a; exact hw.oldr (RowB.lit rfl) cut_a))) | (apply ao_callr2; exact wants_a; (exact oc_func rfl); (exact rfl); (first | (intro w hw; refine al_chargeP _ w ?_; exact hw.oldr (RowB.lit rfl) cut_a)); intro vr lr hr) | (apply ao_callrg; exact wants_a; (exact oc_func rfl); (exact rfl); (first | (intro w hw; refine al_own _ w ?_; exact hw.oldr (RowB.lit rfl) cut_a)); intro vr lr hr) | (apply ah_one; (exact rfl)) | (apply ah_two; (exact rfl); (exact rfl)) | (apply ah_three; (exact rfl); (exact rfl); (exact rfl)) | (refine aw_is ?_; first | (apply aw_held (id := 6) (pl := (.t 0 (.t 1 (.t 2 (.t 3 (.o 4 (.t 5 (.t 6 (.t 7 (.t 8 (.t 9 (.t 10 (.t 11 (.t 12 (.o 13 (.t 14 (.t 15 (.t 16 (.o 17 (.t 18 (.t 19 (.t 20 (.t 21 (.t 22 (.o 23 (.o 24 (.t 25 (.t 26 (.t 27 (.t 28 (.o 29 (.t 30 (.t 31 (.t 32 (.t 33 (.t 34 (.o 35 (.t 36 (.t 37 .e))))))))))))))))))))))))))))))))))))))); (kernel_rfl); (kernel_rfl); (kernel_rfl); (solve | (exact List.Sublist.refl _))) | refine aw_seq ?_ | refine aw_block ?_ | refine aw_region ?_ | refine aw_skip ?_ | refine aw_exit ?_ | refine aw_ret ?_ | refine aw_label ?_ | refine aw_scope ?_ | refine aw_cond_t rfl (by with_reducible rfl) ?_ | refine aw_cond_f rfl (by with_reducible rfl) ?_ | refine aw_draw (by kernel_rfl) (by kernel_rfl) ?_) | (first | (refine ah_is ?_; (fail_if_success first | refine ah_glit (b := true) rfl rfl rfl (by with_reducible rfl) ?_ | refine ah_glit (b := false) rfl rfl rfl (by with_reducible rfl) ?_); apply ah_gt; (exact rfl); (exact rfl); (exact rfl); exact t_a) | ((refine ao_is ?_; (fail_if_success first | refine ao_glit (b := true) rfl rfl (by with_reducible rfl) ?_ | refine ao_glit (b := false) rfl rfl (by with_reducible rfl) ?_)); apply ao_gt; (exact rfl); (exact rfl); exact t_a) | ((refine aq_is ?_; (fail_if_success first | refine aq_glit (b := true) rfl rfl (by with_reducible rfl) ?_ | refine aq_glit (b := false) rfl rfl (by with_reducible rfl) ?_)); apply aq_gt; (exact rfl); (exact rfl); exact t_a) | (apply aw_ct; (exact rfl); exact t_a)) | (first | (refine ah_is ?_; (fail_if_success first | refine ah_glit (b := true) rfl rfl rfl (by with_reducible rfl) ?_ | refine ah_glit (b := false) rfl rfl rfl (by with_reducible rfl) ?_); apply ah_gf; (exact rfl); (exact rfl); (exact rfl); exact f_a) | ((refine ao_is ?_; (fail_if_success first | refine ao_glit (b := true) rfl rfl (by with_reducible rfl) ?_ | refine ao_glit (b := false) rfl rfl (by with_reducible rfl) ?_)); apply ao_gf; (exact rfl); (exact rfl); exact f_a) | ((refine aq_is ?_; (fail_if_success first | refine aq_glit (b := true) rfl rfl (by with_reducible rfl) ?_ | refine aq_glit (b := false) rfl rfl (by with_reducible rfl) ?_)); apply aq_gf; (exact rfl); (exact rfl); exact f_a) | (apply aw_cf; (exact rfl); exact f_a)) | refine at_normal ?_ | refine at_exit ?_ | refine at_ret ?_ | refine ib_normal ?_ | refine ib_exit ?_ | refine ib_other ?_ | refine ib_ret ?_ | refine lq_exit ?_ | refine lq_ret ?_ | refine ci_ret ?_ | refine ci_exit ?_ | refine r1_ret rfl ?_ | refine r1_normal rfl ?_ | refine r2_ret rfl rfl ?_ | refine r2_normal rfl rfl ?_ | refine r3_ret rfl rfl rfl ?_ | refine r3_normal rfl rfl rfl ?_ | refine ng_normal ?_ | refine ng_exit ?_ | refine ng_ret ?_ | (apply rt_ret; (exact rfl); (exact rfl); (exact rfl); exact has_a; exact has_a; (exact rfl); (exact rfl)) | (apply rc1_ret; (exact rfl); exact has_a; (exact rfl)) | (apply rc2_ret; (exact rfl); exact has_a; (exact rfl); (exact rfl)) | (refine ao_is ?_; (fail_if_success first | refine ao_glit (b := true) rfl rfl (by with_reducible rfl) ?_ | refine ao_glit (b := false) rfl rfl (by with_reducible rfl) ?_); refine ao_gbool rfl rfl (fun _ => ?_) (fun _ => ?_)) | (refine aq_is ?_; (fail_if_success first | refine aq_glit (b := true) rfl rfl (by with_reducible rfl) ?_ | refine aq_glit (b := false) rfl rfl (by with_reducible rfl) ?_); refine aq_gbool rfl rfl (fun _ => ?_) (fun _ => ?_)) | (refine aw_is ?_; refine aw_cond rfl (fun _ => ?_) (fun _ => ?_)))
  exact fun w' hw => ⟨rfl, hw.below⟩
end Ojt
end Go.Proofs.Ythabchmfhfhcaaa
