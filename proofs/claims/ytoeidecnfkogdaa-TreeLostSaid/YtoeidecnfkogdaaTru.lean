/- The walk of TreePlays of layer 11; conditions: none. -/
import Derived.Test.YtoeidecnfkogdaaTrt
namespace Go.Proofs.Ytoeidecnfkogdaa
namespace Trt
open Go Go.RowKit Sx
attribute [local irreducible] Go.Calls

theorem FitT.p8 {t : Tr} (h : FitT t) (s : Nm) : (pathT t s).length ≤ 8 := by
  cases hs : hasT t s
  · rw [path_none hs]; exact Nat.zero_le _
  · obtain ⟨e, he, rfl⟩ := has_iff.1 hs
    exact h.wf.deep e he
theorem FitT.cl {t : Tr} (h : FitT t) (s : Nm) : (childT t s).length ≤ 100000 := by
  unfold childT
  rw [List.length_map]
  have := List.length_filter_le (fun e : Nm × Nm => decide (e.2 = s) && decide (e.1 ≠ rootN)) t
  have := h.len
  omega
theorem FitT.bl {t : Tr} (h : FitT t) (s : Nm) : (belowT t s).length ≤ 100000 := by
  unfold belowT
  rw [List.length_map]
  have := List.length_filter_le (fun e : Nm × Nm => decide (s ∈ pathT t e.1)) t
  have := h.len
  omega
theorem FitT.al {t : Tr} (h : FitT t) : (t.map (·.1)).length ≤ 100000 := by rw [List.length_map]; have := h.len; omega
theorem wrap4 : ∀ i : Nat, i < 4 → IntKind.u8.wrap (i : Int) = i := by decide
theorem ldo0_ok (a : Ac) (h0 : 0 ≤ a.kind) (w : World) : Calls Try.prog 10 #[.pointer none, AV a] w fun e w' => e = .returned (I 1) ∧ Below w.heap.size w w' := by
  obtain ⟨kind, n, o⟩ := a
  simp only at h0
  refine calls1 (args := [.pointer none, AV ⟨kind, n, o⟩]) Try.func10 rfl rfl rfl rfl ?_
  have hC := fun w => tcreate0_ok n o w
  have hM := fun w => tmove0_ok n o w
  have hR := fun w => tremove0_ok n w
  rcases mod4 kind with h7 | h7 | h7 | h7
  all_goals
    repeat' (first | refine aw_seq ?_ | ((first | apply ao_val | apply aq_val); exact wants_a; (first | exact ov_rem4 h0 h7 rfl rfl | exact ov_a); (exact rfl)) | refine zy ?_ | refine zon fun _ => ?_ | refine zoa fun vr lr hr => ?_ | ((first | apply ao_call | apply aq_call); exact wants_a; (first | exact oc_func rfl | exact oc_clos rfl rfl | exact oc_bnd rfl rfl); (exact rfl); (first | exact fun w hw => hC w | exact fun w hw => hM w | exact fun w hw => hR w)) | refine zoS (fun _ => ?_) (fun _ => ?_) | refine zqS (fun _ => ?_) (fun _ => ?_) | refine zwS (fun _ => ?_) (fun _ => ?_))
    exact fun w' hw => ⟨rfl, hw.below⟩
set_option maxHeartbeats 64000000 in
theorem plays_ok (v : Value) (xs : List Ac) (hn : ∀ a ∈ xs, 0 ≤ a.kind) (w : World) (hv : OldRow w 3 v xs.length (xs.flatMap cellsA)) : Calls Try.prog 3 #[v] w fun e w' => e = .returned (.bool true) ∧ Below w.heap.size w w' := by
  have hfit := fun w' (hb : Below w.heap.size w w') => fits11_ok v xs w' (OldRow.below hv hb)
  obtain ⟨a, cp, rfl, hat⟩ := OldRow.cells cellsA_len hv
  refine calls1 (args := [.slice a xs.length cp]) Try.func3 rfl rfl rfl rfl ?_
  cases hq : fitA xs
  · rw [hq] at hfit
    repeat' (first | refine aw_seq ?_ | refine zz ?_ | refine zon fun _ => ?_ | refine zoa fun vr lr hr => ?_ | ((first | apply ao_call | apply aq_call); exact wants_a; (first | exact oc_func rfl | exact oc_clos rfl rfl | exact oc_bnd rfl rfl); (exact rfl); (first | exact fun w hw => hfit w hw.below | exact fun w hw => alive_ok w)) | refine zoS (fun _ => ?_) (fun _ => ?_) | refine zqS (fun _ => ?_) (fun _ => ?_) | refine zwS (fun _ => ?_) (fun _ => ?_))
    exact fun w' hw => ⟨rfl, hw.below⟩
  rw [hq] at hfit
  obtain ⟨h60, hks⟩ := fitA_wf hq
  repeat' (first | refine aw_seq ?_ | refine zz ?_ | refine zon fun _ => ?_ | refine zoa fun vr lr hr => ?_ | ((first | apply ao_call | apply aq_call); exact wants_a; (first | exact oc_func rfl | exact oc_clos rfl rfl | exact oc_bnd rfl rfl); (exact rfl); (first | exact fun w hw => hfit w hw.below)) | ((apply ao_callD; exact wants_a; (exact oc_func rfl); (exact rfl); (intro w hw; exact tnew_ok w); intro vr lr hr; obtain ⟨g, hvr, hL⟩ := hr; subst hvr)) | ((apply ao_callD; exact wants_a; (exact oc_func rfl); (exact rfl); (intro w hw; exact rbegin_ok w); intro vr lm hr; obtain ⟨gm, hvr, hR⟩ := hr; subst hvr)) | refine zoS (fun _ => ?_) (fun _ => ?_) | refine zqS (fun _ => ?_) (fun _ => ?_) | refine zwS (fun _ => ?_) (fun _ => ?_))
  refine aw_for (t0 := [(0, .slice a xs.length cp), (4, .pointer (some ⟨g, 0, none⟩)), (5, .pointer (some ⟨gm, 0, none⟩)), (6, I (0 : Nat))]) (fun q t H => ∃ (i : Nat) (tr : Tr) (l lm : Hp), q = xs.length - i ∧ i ≤ xs.length ∧ LTr tr g l ∧ FitT tr ∧ RTr gm tr lm ∧
      t = [(0, .slice a xs.length cp), (4, .pointer (some ⟨g, 0, none⟩)), (5, .pointer (some ⟨gm, 0, none⟩)), (6, I i)] ∧ H = lm ++ (l ++ []))
    ⟨0, Tr.new, lr, lm, rfl, by omega, hL, FitT.new, hR, rfl, rfl⟩ (by repeat (first | exact sub_nil | refine sub_cons rfl ?_)) ?_
  clear hL hR
  rintro q t H ⟨i, tr, l, lm, rfl, hi, hL, hF, hR, rfl, rfl⟩
  by_cases hlt : i < xs.length
  · obtain ⟨⟨kind, n, o⟩, he⟩ := getP hlt
    have m1 := List.mem_of_getElem? he
    have hk0 := hn _ m1
    have hkk := hks _ m1
    obtain ⟨ga, o1, rfl, hg, hc⟩ := hat i _ (i : Int) he rfl
    have cA : ∀ (j : Nat) z, [.int .u8 kind, S n, S o][j]? = some z → w.cell? ⟨ga, o1 + (i : Int).toNat * 3 + j, none⟩ = some z := hc
    have c1 : w.cell? ⟨ga, o1 + (i : Int).toNat * 3 + 1, none⟩ = some (S n) := hc 1 _ rfl
    have c2 : w.cell? ⟨ga, o1 + (i : Int).toNat * 3 + 2, none⟩ = some (S o) := hc 2 _ rfl
    have hdo := fun m R => ldo_ok (m := m) (w0 := w) hL hF ⟨kind, n, o⟩ hk0 hkk R
    have hwa := fun m R => rwant_ok (m := m) (w0 := w) hR hF ⟨kind, n, o⟩ hk0 hkk R
    have hF2 := fit_doT hF kind hkk.1 o
    unfold LDid at hdo
    unfold RDid at hwa
    simp only at hdo hwa hF2
    generalize doT (Lab.rightB n) tr kind n o = X at hdo hwa hF2
    obtain ⟨er, t2⟩ := X
    simp only at hdo hwa hF2
    repeat' (first | refine aw_seq ?_ | ((first | apply ao_val | apply aq_val); exact wants_a; (first | exact ov_load_oa rfl hg cA rfl | exact ov_a); (exact rfl)) | refine zy ?_ | refine zon fun _ => ?_ | refine zoa fun vr lr hr => ?_ | ((apply ao_callH (l := l); exact wants_a; (exact oc_func rfl); (exact rfl); (exact Cut.skipA lm Cut.here); (exact hdo _ _); rintro _ _ ⟨rfl, l2, rfl, hL2⟩)) | ((apply ao_callH (l := lm); exact wants_a; (exact oc_func rfl); (exact rfl); (exact Cut.skipA l2 Cut.here); (exact hwa _ _); rintro _ _ ⟨rfl, lm2, rfl, hR2⟩)) | refine zoS (fun _ => ?_) (fun _ => ?_) | refine zqS (fun _ => ?_) (fun _ => ?_) | refine zwS (fun _ => ?_) (fun _ => ?_))
    obtain ⟨vN, lN, rfl, hN⟩ := hR2
    rw [List.cons_append]
    have hal := fun w' (hl : Lies w' l2) => tall_ok hL2 hF2 w' hl
    have hra := fun w' (h : TAt w' gm t2 vN) => rall_ok h hF2.len2
    have hta := same_ok _ hF2.al
    repeat' (first | (apply ao_nilh; exact hsub_a) | apply ao_nil | apply aq_nil | apply ah_end | ((first | apply ao_val | apply aq_val | (apply ah_take; (exact rfl))); exact wants_a; (first | exact ov_nilcheck rfl | exact ov_a); (exact rfl)) | ((first | apply ao_skip | apply aq_skip | (apply ah_skip; (exact rfl))); exact nots_a; (exact rfl)) | (refine ao_is ?_; first | (apply ao_new; exact wants_a; exact on_a; (exact rfl); intro _) | (apply ao_store; exact wants_a; exact ow_a; exact upd_a) | (apply ao_valw; exact wants_a; exact ox_a; (exact rfl); exact upd_a) | (apply ao_skip0; exact nots_a) | (apply ao_append; exact wants_a; (exact rfl); assumption; (exact rfl); exact cut_a; exact has_a; (exact rfl); (exact rfl); omega; omega; omega; (exact rfl); intro vr lr hr)) | ((first | apply ao_call | apply aq_call); exact wants_a; (first | exact oc_func rfl | exact oc_clos rfl rfl | exact oc_bnd rfl rfl); (exact rfl); (first | exact fun w hw => hta _ _ w (hw.oldr (by assumption) cut_a) (hw.oldr (by assumption) cut_a))) | (apply ao_callr; exact wants_a; (exact oc_func rfl); (exact rfl); (first | exact fun w hw => hal w (lies_of hw (l := l2) cut_a) | exact fun w hw => hra w (tAt_of hw has_a hN cut_a)); intro vr lr hr) | (apply ah_one; (exact rfl)) | (apply ah_two; (exact rfl); (exact rfl)) | (apply ah_three; (exact rfl); (exact rfl); (exact rfl)) | (refine aw_is ?_; first | (apply aw_held (id := 14) (pl := (.t 0 (.t 1 (.t 2 (.t 3 (.t 4 (.t 5 (.t 6 (.t 7 (.t 8 (.t 9 (.o 10 (.t 11 .e))))))))))))); (kernel_rfl); (kernel_rfl); (kernel_rfl); (solve | (exact List.Sublist.refl _))) | refine aw_seq ?_ | refine aw_block ?_ | refine aw_region ?_ | refine aw_skip ?_ | refine aw_exit ?_ | refine aw_ret ?_ | refine aw_label ?_ | refine aw_scope ?_ | refine aw_cond_t rfl (by with_reducible rfl) ?_ | refine aw_cond_f rfl (by with_reducible rfl) ?_ | refine aw_draw (by kernel_rfl) (by kernel_rfl) ?_) | (first | (refine ah_is ?_; (fail_if_success first | refine ah_glit (b := true) rfl rfl rfl (by with_reducible rfl) ?_ | refine ah_glit (b := false) rfl rfl rfl (by with_reducible rfl) ?_); apply ah_gt; (exact rfl); (exact rfl); (exact rfl); exact t_a) | ((refine ao_is ?_; (fail_if_success first | refine ao_glit (b := true) rfl rfl (by with_reducible rfl) ?_ | refine ao_glit (b := false) rfl rfl (by with_reducible rfl) ?_)); apply ao_gt; (exact rfl); (exact rfl); exact t_a) | ((refine aq_is ?_; (fail_if_success first | refine aq_glit (b := true) rfl rfl (by with_reducible rfl) ?_ | refine aq_glit (b := false) rfl rfl (by with_reducible rfl) ?_)); apply aq_gt; (exact rfl); (exact rfl); exact t_a) | (apply aw_ct; (exact rfl); exact t_a)) | (first | (refine ah_is ?_; (fail_if_success first | refine ah_glit (b := true) rfl rfl rfl (by with_reducible rfl) ?_ | refine ah_glit (b := false) rfl rfl rfl (by with_reducible rfl) ?_); apply ah_gf; (exact rfl); (exact rfl); (exact rfl); exact f_a) | ((refine ao_is ?_; (fail_if_success first | refine ao_glit (b := true) rfl rfl (by with_reducible rfl) ?_ | refine ao_glit (b := false) rfl rfl (by with_reducible rfl) ?_)); apply ao_gf; (exact rfl); (exact rfl); exact f_a) | ((refine aq_is ?_; (fail_if_success first | refine aq_glit (b := true) rfl rfl (by with_reducible rfl) ?_ | refine aq_glit (b := false) rfl rfl (by with_reducible rfl) ?_)); apply aq_gf; (exact rfl); (exact rfl); exact f_a) | (apply aw_cf; (exact rfl); exact f_a)) | refine at_normal ?_ | refine at_exit ?_ | refine at_ret ?_ | refine ib_normal ?_ | refine ib_exit ?_ | refine ib_other ?_ | refine ib_ret ?_ | refine lq_exit ?_ | refine lq_ret ?_ | refine ci_ret ?_ | refine ci_exit ?_ | refine r1_ret rfl ?_ | refine r1_normal rfl ?_ | refine r2_ret rfl rfl ?_ | refine r2_normal rfl rfl ?_ | refine r3_ret rfl rfl rfl ?_ | refine r3_normal rfl rfl rfl ?_ | refine ng_normal ?_ | refine ng_exit ?_ | refine ng_ret ?_ | (apply rt_ret; (exact rfl); (exact rfl); (exact rfl); exact has_a; exact has_a; (exact rfl); (exact rfl)) | (apply rc1_ret; (exact rfl); exact has_a; (exact rfl)) | (apply rc2_ret; (exact rfl); exact has_a; (exact rfl); (exact rfl)) | (refine ao_is ?_; (fail_if_success first | refine ao_glit (b := true) rfl rfl (by with_reducible rfl) ?_ | refine ao_glit (b := false) rfl rfl (by with_reducible rfl) ?_); refine ao_gbool rfl rfl (fun _ => ?_) (fun _ => ?_)) | (refine aq_is ?_; (fail_if_success first | refine aq_glit (b := true) rfl rfl (by with_reducible rfl) ?_ | refine aq_glit (b := false) rfl rfl (by with_reducible rfl) ?_); refine aq_gbool rfl rfl (fun _ => ?_) (fun _ => ?_)) | (refine aw_is ?_; refine aw_cond rfl (fun _ => ?_) (fun _ => ?_)))
    rename_i bn
    clear hal hra hta hdo hwa
    obtain ⟨cs, hcs⟩ : ∃ cs : List Value, cs = [S n, S o] := ⟨_, rfl⟩
    refine aw_forH (t0 := [(0, .slice (some ⟨ga, o1, none⟩) xs.length cp), (4, .pointer (some ⟨g, 0, none⟩)), (5, .pointer (some ⟨gm, 0, none⟩)), (6, I i), (10, .slice (some ⟨bn, 0, none⟩) 2 2), (11, I (0 : Nat))]) (H0 := (bn, .cells cs.toArray 9 (0, 0)) :: ((gm, .cells #[vN] 51 (0, 0)) :: (lN ++ (l2 ++ [])))) (fun q t H => ∃ k : Nat, q = 2 - k ∧ k ≤ 2 ∧ t = [(0, .slice (some ⟨ga, o1, none⟩) xs.length cp), (4, .pointer (some ⟨g, 0, none⟩)), (5, .pointer (some ⟨gm, 0, none⟩)), (6, I i), (10, .slice (some ⟨bn, 0, none⟩) 2 2), (11, I k)] ∧ H = (bn, .cells cs.toArray 9 (0, 0)) :: ((gm, .cells #[vN] 51 (0, 0)) :: (lN ++ (l2 ++ []))))
      ⟨0, rfl, by omega, rfl, rfl⟩ (by repeat (first | exact sub_nil | refine sub_cons rfl ?_)) (by rw [hcs]; exact hsub_a) ?_
    rintro q t H ⟨k, rfl, hk2, rfl, rfl⟩
    by_cases hlk : k < 2
    · obtain ⟨s, cK⟩ : ∃ s, cs[0 + (k : Int).toNat * 1]? = some (S s) := by
        rw [hcs]
        obtain rfl | rfl : k = 0 ∨ k = 1 := by omega
        · exact ⟨n, rfl⟩
        · exact ⟨o, rfl⟩
      clear hcs
      have hpa := fun w' (hl : Lies w' l2) => tpath_ok hL2 hF2 s w' hl
      have hch := fun w' (hl : Lies w' l2) => tchild_ok hL2 hF2 s w' hl
      have hbe := fun w' (hl : Lies w' l2) => tbelow_ok hL2 hF2 s w' hl
      have hha := fun w' (hl : Lies w' l2) => thas_ok hL2 hF2 s w' hl
      have hpr := fun w' (hl : Lies w' l2) => tpar_ok hL2 hF2 s w' hl
      have p8 := hF2.p8 s
      have rpa := fun w' (h : TAt w' gm t2 vN) => rpath_ok h hF2.len2 9 (by omega) s (show (pathT t2 s).length < 9 by omega)
      rw [show pathN t2 9 s = pathT t2 s from rfl] at rpa
      have rch := fun w' (h : TAt w' gm t2 vN) => rchild_ok h hF2.len2 s
      have rbe := fun w' (h : TAt w' gm t2 vN) => rbelow_ok h hF2.len2 hF2.wf.deep s
      have rha := fun w' (h : TAt w' gm t2 vN) => rhas_ok h hF2.len2 s
      have rpr := fun w' (h : TAt w' gm t2 vN) => rpar_ok h hF2.len2 s
      have e1 := same_ok (pathT t2 s) (by omega)
      have e2 := same_ok _ (hF2.cl s)
      have e3 := same_ok _ (hF2.bl s)
      have hne : (hasT t2 s != hasT t2 s) = false := bne_self_eq_false _
      have hne2 : (parT t2 s != parT t2 s) = false := bne_self_eq_false _
      generalize pathT t2 s = L1 at hpa rpa e1 p8
      generalize childT t2 s = L2 at hch rch e2
      generalize belowT t2 s = L3 at hbe rbe e3
      repeat' (first | refine aw_seq ?_ | ((first | apply ao_val | apply aq_val); exact wants_a; (first | exact ov_nilcheck rfl | exact ov_a); (exact rfl)) | refine zy ?_ | refine zon fun _ => ?_ | refine zoa fun vr lr hr => ?_ | ((first | apply ao_call | apply aq_call); exact wants_a; (first | exact oc_func rfl | exact oc_clos rfl rfl | exact oc_bnd rfl rfl); (exact rfl); (first | exact fun w hw => e1 _ _ w (hw.oldr (by assumption) cut_a) (hw.oldr (by assumption) cut_a) | exact fun w hw => e2 _ _ w (hw.oldr (by assumption) cut_a) (hw.oldr (by assumption) cut_a) | exact fun w hw => e3 _ _ w (hw.oldr (by assumption) cut_a) (hw.oldr (by assumption) cut_a) | exact fun w hw => hha w (lies_of hw (l := l2) cut_a) | exact fun w hw => hpr w (lies_of hw (l := l2) cut_a) | exact fun w hw => rha w (tAt_of hw has_a hN cut_a) | exact fun w hw => rpr w (tAt_of hw has_a hN cut_a))) | (apply ao_callr; exact wants_a; (exact oc_func rfl); (exact rfl); (first | exact fun w hw => hpa w (lies_of hw (l := l2) cut_a) | exact fun w hw => hch w (lies_of hw (l := l2) cut_a) | exact fun w hw => hbe w (lies_of hw (l := l2) cut_a) | exact fun w hw => rpa w (tAt_of hw has_a hN cut_a) | exact fun w hw => rch w (tAt_of hw has_a hN cut_a) | exact fun w hw => rbe w (tAt_of hw has_a hN cut_a)); intro vr lr hr) | refine zoS (fun _ => ?_) (fun _ => ?_) | refine zqS (fun _ => ?_) (fun _ => ?_) | refine zwS (fun _ => ?_) (fun _ => ?_))
      exact lq_normal' ⟨k + 1, rfl, by omega, rfl, rfl⟩ (by omega) (by repeat (first | exact sub_nil | refine sub_cons rfl ?_)) hsub_a
    · obtain rfl : k = 2 := by omega
      repeat' (first | refine aw_seq ?_ | refine zz ?_ | refine zon fun _ => ?_ | refine zoa fun vr lr hr => ?_ | refine zoS (fun _ => ?_) (fun _ => ?_) | refine zqS (fun _ => ?_) (fun _ => ?_) | refine zwS (fun _ => ?_) (fun _ => ?_))
      exact lq_normal' (H' := ((gm, .cells #[vN] 51 (0, 0)) :: lN) ++ (l2 ++ [])) ⟨i + 1, t2, l2, _, rfl, by omega, hL2, hF2, ⟨_, lN, rfl, hN⟩, rfl, rfl⟩ (by omega) (by repeat (first | exact sub_nil | refine sub_cons rfl ?_)) (by rw [List.cons_append]; exact hsub_a)
  · obtain rfl : i = xs.length := by omega
    repeat' (first | refine aw_seq ?_ | refine zz ?_ | refine zon fun _ => ?_ | refine zoa fun vr lr hr => ?_ | refine zoS (fun _ => ?_) (fun _ => ?_) | refine zqS (fun _ => ?_) (fun _ => ?_) | refine zwS (fun _ => ?_) (fun _ => ?_))
    refine aw_for (t0 := [(16, .pointer none), (17, I (0 : Nat))]) (fun q t H => ∃ i : Nat, q = 4 - i ∧ i ≤ 4 ∧ t = [(16, .pointer none), (17, I i)]) ⟨0, rfl, by omega, rfl⟩ (by repeat (first | exact sub_nil | refine sub_cons rfl ?_)) ?_
    rintro q t H ⟨i, rfl, hi, rfl⟩
    by_cases hl4 : i < 4
    · have hw4 := wrap4 i hl4
      have hd0 := fun w' => ldo0_ok ⟨(i : Int), [97], rootN⟩ (by simp only; omega) w'
      repeat' (first | refine aw_seq ?_ | ((first | apply ao_val | apply aq_val); exact wants_a; (first | exact ov_convR (k := .u8) (i : Int) rfl hw4 | exact ov_a); (exact rfl)) | refine zy ?_ | refine zon fun _ => ?_ | refine zoa fun vr lr hr => ?_ | ((first | apply ao_call | apply aq_call); exact wants_a; (first | exact oc_func rfl | exact oc_clos rfl rfl | exact oc_bnd rfl rfl); (exact rfl); (first | exact fun w hw => hd0 w)) | refine zoS (fun _ => ?_) (fun _ => ?_) | refine zqS (fun _ => ?_) (fun _ => ?_) | refine zwS (fun _ => ?_) (fun _ => ?_))
      exact lq_normal' ⟨i + 1, rfl, by omega, rfl⟩ (by omega) (by repeat (first | exact sub_nil | refine sub_cons rfl ?_)) hsub_a
    · obtain rfl : i = 4 := by omega
      repeat' (first | refine aw_seq ?_ | ((first | apply ao_val | apply aq_val); exact wants_a; (first | exact ov_lenr rfl (by assumption) | exact ov_a); (exact rfl)) | refine zy ?_ | refine zon fun _ => ?_ | refine zoa fun vr lr hr => ?_ | ((first | apply ao_call | apply aq_call); exact wants_a; (first | exact oc_func rfl | exact oc_clos rfl rfl | exact oc_bnd rfl rfl); (exact rfl); (first | exact fun w hw => alive_ok w | exact fun w hw => thas0_ok _ w | exact fun w hw => tpar0_ok _ w)) | (apply ao_callr; exact wants_a; (exact oc_func rfl); (exact rfl); (first | exact fun w hw => tpath0_ok _ w | exact fun w hw => tchild0_ok _ w | exact fun w hw => tbelow0_ok _ w | exact fun w hw => tall0_ok w); intro vr lr hr) | refine zoS (fun _ => ?_) (fun _ => ?_) | refine zqS (fun _ => ?_) (fun _ => ?_) | refine zwS (fun _ => ?_) (fun _ => ?_))
      exact fun w' hw => ⟨rfl, hw.below⟩
end Trt
end Go.Proofs.Ytoeidecnfkogdaa
