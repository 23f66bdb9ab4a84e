/- The live question of layer 7; conditions: none. -/
import Derived.Test.YtifibkddjebmoaaEvl
namespace Go.Proofs.Ytifibkddjebmoaa
namespace Evt
open Go Go.RowKit Sx Lab Vec Ojt
attribute [local irreducible] Go.Calls

abbrev nilS : Value := .slice none 0 0
def zO : Ob := ⟨[], [], [], 0, [], false, false, []⟩
def aO : Ob := ⟨[112, 111, 100], [97], [120], 3, [], false, false, []⟩
def bO : Ob := ⟨[112, 111, 100], [97], [98], 4, [], false, false, []⟩
abbrev cO (n : Nm) (ver : Int) : List Value := [S [112, 111, 100], S [97], S n, I ver, S [], .bool false, .bool false, nilS]
abbrev cAB : List Value := [S [112, 111, 100], S [97], S [120], I 3, S [], .bool false, .bool false, nilS, S [112, 111, 100], S [97], S [98], I 4, S [], .bool false, .bool false, nilS]
theorem eAB : [((nilS : Value), aO), (nilS, bO)].flatMap cellsO = cAB := by kernel_rfl
theorem q1 : sortO [aO, bO] = [bO, aO] := by kernel_rfl
theorem q2 : versE 2 zO 4 [bO, aO] = (4, 0) := by kernel_rfl
theorem q3 : versE 2 zO 4 [aO, bO] = (0, 1) := by kernel_rfl
theorem q4 : versE 0 aO 9 [] = (3, 0) := by kernel_rfl
theorem q5 : rightE 2 zO 4 [aO, bO] = false := by kernel_rfl
theorem q6 : rightE 2 zO 4 [bO, aO] = true := by kernel_rfl
theorem q7 : rightE 4 zO 0 [] = false := by kernel_rfl
theorem wfR0 : wfR [] := ⟨by simp, fun r hr => by cases hr⟩
theorem wZ : wfS zO := ⟨by decide, by decide, by decide, by decide, wfR0⟩
theorem wA : wfS aO := ⟨by decide, by decide, by decide, by decide, wfR0⟩
theorem wB : wfS bO := ⟨by decide, by decide, by decide, by decide, wfR0⟩
theorem res0 (w : World) : ResAt w nilS [] := OldRow.nil
theorem wfl_of {ps : List PO} {os : List Ob} (h : obs ps = os) (hl : os.length ≤ 1000) (ho : ∀ o ∈ os, wfS o) : wfL ps := ⟨by have := obs_len ps; rw [h] at this; omega, fun p hp => ho p.2 (h ▸ List.mem_map_of_mem hp)⟩
theorem wAB : wfL [((nilS : Value), aO), (nilS, bO)] := wfl_of rfl (by decide) fun o ho => by
  rcases List.mem_cons.1 ho with rfl | ho
  · exact wA
  · rw [List.mem_singleton.1 ho]; exact wB
theorem at_AB {w : World} {v : Value} (h : OldRow w 8 v 2 cAB) : ObjsAt w v [(nilS, aO), (nilS, bO)] := ⟨by rw [eAB]; exact h, fun p hp => by
  rcases List.mem_cons.1 hp with rfl | hp
  · exact res0 w
  · rw [List.mem_singleton.1 hp]; exact res0 w⟩
theorem at_0 (w : World) : ObjsAt w nilS [] := ⟨OldRow.nil, fun p hp => by cases hp⟩
theorem wl0 : wfL [] := ⟨by simp, fun p hp => by cases hp⟩
theorem al_sorted (b : Nat) (w : World) (h : OldRow w 8 (.slice (some ⟨b, 0, none⟩) 2 2) 2 cAB) : Calls Try.prog 12 #[.slice (some ⟨b, 0, none⟩) 2 2] w fun e w' => ∃ r, e = .returned r ∧ NewD (DObjs [bO, aO]) w w' r := by
  have := psorted_ok _ _ wAB (by decide) w (at_AB h)
  rw [show sortO (obs [((nilS : Value), aO), (nilS, bO)]) = [bO, aO] from q1] at this
  exact this
/-- An event's value, spelt out. -/
abbrev E0 (kind over : Int) (k s n c : Nm) (ver : Int) (v : Value) : Value := .agg #[I kind, S k, S s, S n, I over, S c, .bool false, .bool false, nilS, I ver, v]
theorem al_versAB (v : Value) (w : World) (h : OldRow w 8 v 2 cAB) : Calls Try.prog 7 #[E0 2 0 [] [] [] [] 4 v] w fun e w' => e = .returned (.tuple #[I 0, I 1]) ∧ Below w.heap.size w w' := by
  have := pversion_ok 2 (nilS, zO) 4 v _ wZ wAB w (res0 w) (at_AB h)
  rw [show versE 2 zO 4 (obs [((nilS : Value), aO), (nilS, bO)]) = (0, 1) from q3] at this
  exact this
theorem al_versBA (v : Value) (ps : List PO) (hps : obs ps = [bO, aO]) (w : World) (h : ObjsAt w v ps) : Calls Try.prog 7 #[E0 2 0 [] [] [] [] 4 v] w fun e w' => e = .returned (.tuple #[I 4, I 0]) ∧ Below w.heap.size w w' := by
  have := pversion_ok 2 (nilS, zO) 4 v ps wZ (wfl_of hps (by decide) fun o ho => by
    rcases List.mem_cons.1 ho with rfl | ho
    · exact wB
    · rw [List.mem_singleton.1 ho]; exact wA) w (res0 w) h
  rw [hps, q2] at this
  exact this
theorem al_versA (w : World) : Calls Try.prog 7 #[E0 0 3 [112, 111, 100] [97] [120] [] 9 nilS] w fun e w' => e = .returned (.tuple #[I 3, I 0]) ∧ Below w.heap.size w w' := by
  have := pversion_ok 0 (nilS, aO) 9 nilS [] wA wl0 w (res0 w) (at_0 w)
  rw [show versE 0 aO 9 (obs []) = (3, 0) from q4] at this
  exact this
theorem al_rightAB (v : Value) (w : World) (h : OldRow w 8 v 2 cAB) : Calls Try.prog 14 #[E0 2 0 [] [] [] [] 4 v] w fun e w' => e = .returned (.bool false) ∧ Below w.heap.size w w' := by
  have := pright_ok 2 (nilS, zO) 4 v _ wZ wAB w (res0 w) (at_AB h)
  rw [show rightE 2 zO 4 (obs [((nilS : Value), aO), (nilS, bO)]) = false from q5] at this
  exact this
theorem al_rightBA (v : Value) (ps : List PO) (hps : obs ps = [bO, aO]) (w : World) (h : ObjsAt w v ps) : Calls Try.prog 14 #[E0 2 0 [] [] [] [] 4 v] w fun e w' => e = .returned (.bool true) ∧ Below w.heap.size w w' := by
  have := pright_ok 2 (nilS, zO) 4 v ps wZ (wfl_of hps (by decide) fun o ho => by
    rcases List.mem_cons.1 ho with rfl | ho
    · exact wB
    · rw [List.mem_singleton.1 ho]; exact wA) w (res0 w) h
  rw [hps, q6] at this
  exact this
theorem al_right4 (w : World) : Calls Try.prog 14 #[E0 4 0 [] [] [] [] 0 nilS] w fun e w' => e = .returned (.bool false) ∧ Below w.heap.size w w' := by
  have := pright_ok 4 (nilS, zO) 0 nilS [] wZ wl0 w (res0 w) (at_0 w)
  rw [show rightE 4 zO 0 (obs []) = false from q7] at this
  exact this
theorem al_own (v : Value) (w : World) (h : OldRow w 8 v 2 cAB) : Calls Try.prog 10 #[E0 2 0 [] [] [] [] 4 v] w fun e w' => ∃ r, e = .returned r ∧ NewD (DEv 2 zO 4 [aO, bO]) w w' r := pown_ok 2 (nilS, zO) 4 v _ wZ wAB w (res0 w) (at_AB h)
theorem al_same (v u x : Value) (qs : List PO) (hqs : obs qs = [aO, bO]) (w : World) (h : OldRow w 8 v 2 cAB) (hx : ResAt w x []) (hu : ObjsAt w u qs) : Calls Try.prog 16 #[E0 2 0 [] [] [] [] 4 v, EV 2 (x, zO) 4 u] w fun e w' => e = .returned (.bool true) ∧ Below w.heap.size w w' := by
  have := psame_ok 2 (nilS, zO) 4 v _ 2 (x, zO) 4 u qs wZ wAB wZ (wfl_of hqs (by decide) fun o ho => by
    rcases List.mem_cons.1 ho with rfl | ho
    · exact wA
    · rw [List.mem_singleton.1 ho]; exact wB) w (res0 w) (at_AB h) hx hu
  unfold sameE at this
  rw [hqs] at this
  exact this
theorem al_not (v u : Value) (qs : List PO) (hqs : obs qs = [bO, aO]) (w : World) (h : OldRow w 8 v 2 cAB) (hu : ObjsAt w u qs) : Calls Try.prog 16 #[E0 2 0 [] [] [] [] 4 v, E0 2 0 [] [] [] [] 4 u] w fun e w' => e = .returned (.bool false) ∧ Below w.heap.size w w' := by
  have := psame_ok 2 (nilS, zO) 4 v _ 2 (nilS, zO) 4 u qs wZ wAB wZ (wfl_of hqs (by decide) fun o ho => by
    rcases List.mem_cons.1 ho with rfl | ho
    · exact wB
    · rw [List.mem_singleton.1 ho]; exact wA) w (res0 w) (at_AB h) (res0 w) hu
  unfold sameE at this
  rw [hqs] at this
  exact this

set_option maxHeartbeats 64000000 in
theorem alive_ok (w : World) : Calls Try.prog 6 #[] w fun e w' => e = .returned (.bool true) ∧ Below w.heap.size w w' := by
  refine calls1 (args := []) Try.func6 rfl rfl rfl rfl ?_
  repeat' (first | refine aw_seq ?_ | refine zz ?_ | refine zon fun _ => ?_ | refine zoa fun vr lr hr => ?_ | (apply ao_callD; exact wants_a; (exact oc_func rfl); (exact rfl); (first | exact fun w hw => al_sorted _ w (hw.oldr (RowB.lit rfl) cut_a)); intro vr lr hr) | refine zoS (fun _ => ?_) (fun _ => ?_) | refine zqS (fun _ => ?_) (fun _ => ?_) | refine zwS (fun _ => ?_) (fun _ => ?_))
  revert vr lr hr
  rintro vn ln ⟨ps, l0, ls, hps, rfl, hrow, hk⟩
  have hpl : ps.length = 2 := by rw [← obs_len, hps]; rfl
  obtain ⟨g, cap, cs, rfl, rfl, hcell⟩ := hrow.cells_all cellsO_len (by omega)
  obtain ⟨⟨x0, o0⟩, hp0⟩ : ∃ p, ps[0]? = some p := ⟨_, List.getElem?_eq_getElem (by omega)⟩
  obtain rfl : o0 = bO := by
    have := ob_at hp0
    rw [hps] at this
    exact (Option.some.inj this).symm
  have c2 : cs[0 + Int.toNat 0 * 8 + 0 + 2]? = some (S [98]) := hcell 0 _ 0 2 _ hp0 rfl rfl
  clear hcell hp0
  repeat' (first | (apply ao_nilh; exact hsub_a) | apply ao_nil | apply aq_nil | apply ah_end | ((first | apply ao_val | apply aq_val | (apply ah_take; (exact rfl))); exact wants_a; exact ov_a; (exact rfl)) | ((first | apply ao_skip | apply aq_skip | (apply ah_skip; (exact rfl))); exact nots_a; (exact rfl)) | (refine ao_is ?_; first | (apply ao_new; exact wants_a; exact on_a; (exact rfl); intro _) | (apply ao_store; exact wants_a; exact ow_a; exact upd_a) | (apply ao_valw; exact wants_a; exact ox_a; (exact rfl); exact upd_a) | (apply ao_skip0; exact nots_a) | (apply ao_append; exact wants_a; (exact rfl); assumption; (exact rfl); exact cut_a; exact has_a; (exact rfl); (exact rfl); omega; omega; omega; (exact rfl); intro vr lr hr)) | ((first | apply ao_call | apply aq_call); exact wants_a; (first | exact oc_func rfl | exact oc_clos rfl rfl); (exact rfl); (first | exact fun w hw => al_versBA _ ps hps w (objs_at hw hrow hk cut_a) | exact fun w hw => al_versAB _ w (hw.oldr (RowB.lit rfl) cut_a) | exact fun w hw => al_versA w | exact fun w hw => al_rightAB _ w (hw.oldr (RowB.lit rfl) cut_a) | exact fun w hw => al_rightBA _ ps hps w (objs_at hw hrow hk cut_a) | exact fun w hw => al_right4 w | exact fun w hw => al_not _ _ ps hps w (hw.oldr (RowB.lit rfl) cut_a) (objs_at hw hrow hk cut_a))) | (apply ao_callD; exact wants_a; (exact oc_func rfl); (exact rfl); (first | exact fun w hw => al_own _ w (hw.oldr (RowB.lit rfl) cut_a)); intro vr lr hr) | (apply ah_one; (exact rfl)) | (apply ah_two; (exact rfl); (exact rfl)) | (apply ah_three; (exact rfl); (exact rfl); (exact rfl)) | (refine aw_is ?_; first | (apply aw_held (id := 12) (pl := (.t 0 (.t 1 (.t 2 (.t 3 (.t 4 (.t 5 (.t 6 (.t 7 (.o 8 (.t 9 (.t 10 (.t 11 (.t 12 (.o 13 (.t 14 (.t 15 (.t 16 (.t 17 (.t 18 (.t 19 (.t 20 (.t 21 (.t 22 (.t 23 (.t 24 (.t 25 (.t 26 (.t 27 (.t 28 (.t 29 (.t 30 (.t 31 (.t 32 (.t 33 (.t 34 (.t 35 (.t 36 (.t 37 (.o 38 (.o 39 (.t 40 (.t 41 (.t 42 (.t 43 (.o 44 (.t 45 (.t 46 (.t 47 (.t 48 (.o 49 (.t 50 (.t 51 (.t 52 .e)))))))))))))))))))))))))))))))))))))))))))))))))))))); (kernel_rfl); (kernel_rfl); (kernel_rfl); (solve | (exact List.Sublist.refl _))) | refine aw_seq ?_ | refine aw_block ?_ | refine aw_region ?_ | refine aw_skip ?_ | refine aw_exit ?_ | refine aw_ret ?_ | refine aw_label ?_ | refine aw_scope ?_ | refine aw_cond_t rfl (by with_reducible rfl) ?_ | refine aw_cond_f rfl (by with_reducible rfl) ?_ | refine aw_draw (by kernel_rfl) (by kernel_rfl) ?_) | (first | (refine ah_is ?_; (fail_if_success first | refine ah_glit (b := true) rfl rfl rfl (by with_reducible rfl) ?_ | refine ah_glit (b := false) rfl rfl rfl (by with_reducible rfl) ?_); apply ah_gt; (exact rfl); (exact rfl); (exact rfl); exact t_a) | ((refine ao_is ?_; (fail_if_success first | refine ao_glit (b := true) rfl rfl (by with_reducible rfl) ?_ | refine ao_glit (b := false) rfl rfl (by with_reducible rfl) ?_)); apply ao_gt; (exact rfl); (exact rfl); exact t_a) | ((refine aq_is ?_; (fail_if_success first | refine aq_glit (b := true) rfl rfl (by with_reducible rfl) ?_ | refine aq_glit (b := false) rfl rfl (by with_reducible rfl) ?_)); apply aq_gt; (exact rfl); (exact rfl); exact t_a) | (apply aw_ct; (exact rfl); exact t_a)) | (first | (refine ah_is ?_; (fail_if_success first | refine ah_glit (b := true) rfl rfl rfl (by with_reducible rfl) ?_ | refine ah_glit (b := false) rfl rfl rfl (by with_reducible rfl) ?_); apply ah_gf; (exact rfl); (exact rfl); (exact rfl); exact f_a) | ((refine ao_is ?_; (fail_if_success first | refine ao_glit (b := true) rfl rfl (by with_reducible rfl) ?_ | refine ao_glit (b := false) rfl rfl (by with_reducible rfl) ?_)); apply ao_gf; (exact rfl); (exact rfl); exact f_a) | ((refine aq_is ?_; (fail_if_success first | refine aq_glit (b := true) rfl rfl (by with_reducible rfl) ?_ | refine aq_glit (b := false) rfl rfl (by with_reducible rfl) ?_)); apply aq_gf; (exact rfl); (exact rfl); exact f_a) | (apply aw_cf; (exact rfl); exact f_a)) | refine at_normal ?_ | refine at_exit ?_ | refine at_ret ?_ | refine ib_normal ?_ | refine ib_exit ?_ | refine ib_other ?_ | refine ib_ret ?_ | refine lq_exit ?_ | refine lq_ret ?_ | refine ci_ret ?_ | refine ci_exit ?_ | refine r1_ret rfl ?_ | refine r1_normal rfl ?_ | refine r2_ret rfl rfl ?_ | refine r2_normal rfl rfl ?_ | refine r3_ret rfl rfl rfl ?_ | refine r3_normal rfl rfl rfl ?_ | refine ng_normal ?_ | refine ng_exit ?_ | refine ng_ret ?_ | (apply rt_ret; (exact rfl); (exact rfl); (exact rfl); exact has_a; exact has_a; (exact rfl); (exact rfl)) | (apply rc1_ret; (exact rfl); exact has_a; (exact rfl)) | (apply rc2_ret; (exact rfl); exact has_a; (exact rfl); (exact rfl)) | (refine ao_is ?_; (fail_if_success first | refine ao_glit (b := true) rfl rfl (by with_reducible rfl) ?_ | refine ao_glit (b := false) rfl rfl (by with_reducible rfl) ?_); refine ao_gbool rfl rfl (fun _ => ?_) (fun _ => ?_)) | (refine aq_is ?_; (fail_if_success first | refine aq_glit (b := true) rfl rfl (by with_reducible rfl) ?_ | refine aq_glit (b := false) rfl rfl (by with_reducible rfl) ?_); refine aq_gbool rfl rfl (fun _ => ?_) (fun _ => ?_)) | (refine aw_is ?_; refine aw_cond rfl (fun _ => ?_) (fun _ => ?_)))
  revert vr lr hr
  rintro vo lo ⟨x, vu, lx, lu, rfl, rfl, hx, qs, k0, ks, hqs, rfl, hqrow, hqk⟩
  repeat' (first | (apply ao_nilh; exact hsub_a) | apply ao_nil | apply aq_nil | apply ah_end | ((first | apply ao_val | apply aq_val | (apply ah_take; (exact rfl))); exact wants_a; exact ov_a; (exact rfl)) | ((first | apply ao_skip | apply aq_skip | (apply ah_skip; (exact rfl))); exact nots_a; (exact rfl)) | (refine ao_is ?_; first | (apply ao_new; exact wants_a; exact on_a; (exact rfl); intro _) | (apply ao_store; exact wants_a; exact ow_a; exact upd_a) | (apply ao_valw; exact wants_a; exact ox_a; (exact rfl); exact upd_a) | (apply ao_skip0; exact nots_a) | (apply ao_append; exact wants_a; (exact rfl); assumption; (exact rfl); exact cut_a; exact has_a; (exact rfl); (exact rfl); omega; omega; omega; (exact rfl); intro vr lr hr)) | ((first | apply ao_call | apply aq_call); exact wants_a; (first | exact oc_func rfl | exact oc_clos rfl rfl); (exact rfl); (first | exact fun w hw => al_versBA _ ps hps w (objs_at hw hrow hk cut_a) | exact fun w hw => al_versAB _ w (hw.oldr (RowB.lit rfl) cut_a) | exact fun w hw => al_versA w | exact fun w hw => al_rightAB _ w (hw.oldr (RowB.lit rfl) cut_a) | exact fun w hw => al_rightBA _ ps hps w (objs_at hw hrow hk cut_a) | exact fun w hw => al_right4 w | exact fun w hw => al_not _ _ ps hps w (hw.oldr (RowB.lit rfl) cut_a) (objs_at hw hrow hk cut_a) | exact fun w hw => al_same _ _ x qs hqs w (hw.oldr (RowB.lit rfl) cut_a) (hw.oldr hx (Cut.fst (k := k0 ++ ks) cut_a)) (objs_at hw hqrow hqk (Cut.snd (l := lx) cut_a)))) | (apply ao_callD; exact wants_a; (exact oc_func rfl); (exact rfl); (first | exact fun w hw => al_own _ w (hw.oldr (RowB.lit rfl) cut_a)); intro vr lr hr) | (apply ah_one; (exact rfl)) | (apply ah_two; (exact rfl); (exact rfl)) | (apply ah_three; (exact rfl); (exact rfl); (exact rfl)) | (refine aw_is ?_; first | (apply aw_held (id := 12) (pl := (.t 0 (.t 1 (.t 2 (.t 3 (.t 4 (.t 5 (.t 6 (.t 7 (.o 8 (.t 9 (.t 10 (.t 11 (.t 12 (.o 13 (.t 14 (.t 15 (.t 16 (.t 17 (.t 18 (.t 19 (.t 20 (.t 21 (.t 22 (.t 23 (.t 24 (.t 25 (.t 26 (.t 27 (.t 28 (.t 29 (.t 30 (.t 31 (.t 32 (.t 33 (.t 34 (.t 35 (.t 36 (.t 37 (.o 38 (.o 39 (.t 40 (.t 41 (.t 42 (.t 43 (.o 44 (.t 45 (.t 46 (.t 47 (.t 48 (.o 49 (.t 50 (.t 51 (.t 52 .e)))))))))))))))))))))))))))))))))))))))))))))))))))))); (kernel_rfl); (kernel_rfl); (kernel_rfl); (solve | (exact List.Sublist.refl _))) | refine aw_seq ?_ | refine aw_block ?_ | refine aw_region ?_ | refine aw_skip ?_ | refine aw_exit ?_ | refine aw_ret ?_ | refine aw_label ?_ | refine aw_scope ?_ | refine aw_cond_t rfl (by with_reducible rfl) ?_ | refine aw_cond_f rfl (by with_reducible rfl) ?_ | refine aw_draw (by kernel_rfl) (by kernel_rfl) ?_) | (first | (refine ah_is ?_; (fail_if_success first | refine ah_glit (b := true) rfl rfl rfl (by with_reducible rfl) ?_ | refine ah_glit (b := false) rfl rfl rfl (by with_reducible rfl) ?_); apply ah_gt; (exact rfl); (exact rfl); (exact rfl); exact t_a) | ((refine ao_is ?_; (fail_if_success first | refine ao_glit (b := true) rfl rfl (by with_reducible rfl) ?_ | refine ao_glit (b := false) rfl rfl (by with_reducible rfl) ?_)); apply ao_gt; (exact rfl); (exact rfl); exact t_a) | ((refine aq_is ?_; (fail_if_success first | refine aq_glit (b := true) rfl rfl (by with_reducible rfl) ?_ | refine aq_glit (b := false) rfl rfl (by with_reducible rfl) ?_)); apply aq_gt; (exact rfl); (exact rfl); exact t_a) | (apply aw_ct; (exact rfl); exact t_a)) | (first | (refine ah_is ?_; (fail_if_success first | refine ah_glit (b := true) rfl rfl rfl (by with_reducible rfl) ?_ | refine ah_glit (b := false) rfl rfl rfl (by with_reducible rfl) ?_); apply ah_gf; (exact rfl); (exact rfl); (exact rfl); exact f_a) | ((refine ao_is ?_; (fail_if_success first | refine ao_glit (b := true) rfl rfl (by with_reducible rfl) ?_ | refine ao_glit (b := false) rfl rfl (by with_reducible rfl) ?_)); apply ao_gf; (exact rfl); (exact rfl); exact f_a) | ((refine aq_is ?_; (fail_if_success first | refine aq_glit (b := true) rfl rfl (by with_reducible rfl) ?_ | refine aq_glit (b := false) rfl rfl (by with_reducible rfl) ?_)); apply aq_gf; (exact rfl); (exact rfl); exact f_a) | (apply aw_cf; (exact rfl); exact f_a)) | refine at_normal ?_ | refine at_exit ?_ | refine at_ret ?_ | refine ib_normal ?_ | refine ib_exit ?_ | refine ib_other ?_ | refine ib_ret ?_ | refine lq_exit ?_ | refine lq_ret ?_ | refine ci_ret ?_ | refine ci_exit ?_ | refine r1_ret rfl ?_ | refine r1_normal rfl ?_ | refine r2_ret rfl rfl ?_ | refine r2_normal rfl rfl ?_ | refine r3_ret rfl rfl rfl ?_ | refine r3_normal rfl rfl rfl ?_ | refine ng_normal ?_ | refine ng_exit ?_ | refine ng_ret ?_ | (apply rt_ret; (exact rfl); (exact rfl); (exact rfl); exact has_a; exact has_a; (exact rfl); (exact rfl)) | (apply rc1_ret; (exact rfl); exact has_a; (exact rfl)) | (apply rc2_ret; (exact rfl); exact has_a; (exact rfl); (exact rfl)) | (refine ao_is ?_; (fail_if_success first | refine ao_glit (b := true) rfl rfl (by with_reducible rfl) ?_ | refine ao_glit (b := false) rfl rfl (by with_reducible rfl) ?_); refine ao_gbool rfl rfl (fun _ => ?_) (fun _ => ?_)) | (refine aq_is ?_; (fail_if_success first | refine aq_glit (b := true) rfl rfl (by with_reducible rfl) ?_ | refine aq_glit (b := false) rfl rfl (by with_reducible rfl) ?_); refine aq_gbool rfl rfl (fun _ => ?_) (fun _ => ?_)) | (refine aw_is ?_; refine aw_cond rfl (fun _ => ?_) (fun _ => ?_)))
  exact fun w' hw => ⟨rfl, hw.below⟩
end Evt
end Go.Proofs.Ytifibkddjebmoaa
