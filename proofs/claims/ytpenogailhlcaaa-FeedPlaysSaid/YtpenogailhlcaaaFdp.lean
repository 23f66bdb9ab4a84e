/- The walk of FeedPlays of layer 10; conditions: none. -/
import Derived.Test.YtpenogailhlcaaaFdf
namespace Go.Proofs.Ytpenogailhlcaaa
namespace Fdt
open Go Go.RowKit Sx
attribute [local irreducible] Go.Calls

theorem wrap7 : ∀ i : Nat, i < 7 → IntKind.u8.wrap (i : Int) = i := by decide
theorem openF_len (f : Fd) : (openF f).length ≤ f.es.length := open_len f _
set_option maxHeartbeats 64000000 in
theorem plays_ok (v : Value) (xs : List Ac) (hn : ∀ a ∈ xs, 0 ≤ a.kind) (w : World) (hv : OldRow w 5 v xs.length (xs.flatMap cellsA)) : Calls Try.prog 3 #[v] w fun e w' => e = .returned (.bool true) ∧ Below w.heap.size w w' := by
  have hfit := fun w' (hb : Below w.heap.size w w') => fits10_ok v xs w' (OldRow.below hv hb)
  obtain ⟨a, cp, rfl, hat⟩ := OldRow.cells cellsA_len hv
  refine calls1 (args := [.slice a xs.length cp]) Try.func3 rfl rfl rfl rfl ?_
  cases hq : fitA xs
  · rw [hq] at hfit
    repeat' (first | refine aw_seq ?_ | refine zz ?_ | refine zon fun _ => ?_ | refine zoa fun vr lr hr => ?_ | ((first | apply ao_call | apply aq_call); exact wants_a; (first | exact oc_func rfl | exact oc_clos rfl rfl | exact oc_bnd rfl rfl); (exact rfl); (first | exact fun w hw => hfit w hw.below | exact fun w hw => alive_ok w)) | refine zoS (fun _ => ?_) (fun _ => ?_) | refine zqS (fun _ => ?_) (fun _ => ?_) | refine zwS (fun _ => ?_) (fun _ => ?_))
    exact fun w' hw => ⟨rfl, hw.below⟩
  rw [hq] at hfit
  obtain ⟨h100, hks⟩ := fitA_wf hq
  repeat' (first | refine aw_seq ?_ | refine zz ?_ | refine zon fun _ => ?_ | refine zoa fun vr lr hr => ?_ | ((first | apply ao_call | apply aq_call); exact wants_a; (first | exact oc_func rfl | exact oc_clos rfl rfl | exact oc_bnd rfl rfl); (exact rfl); (first | exact fun w hw => hfit w hw.below)) | ((apply ao_callD; exact wants_a; (exact oc_func rfl); (exact rfl); (intro w hw; exact lnew_ok w); intro vr lr hr; obtain ⟨g, hvr, hL⟩ := hr; subst hvr)) | refine zoS (fun _ => ?_) (fun _ => ?_) | refine zqS (fun _ => ?_) (fun _ => ?_) | refine zwS (fun _ => ?_) (fun _ => ?_))
  refine aw_for (t0 := [(0, .slice a xs.length cp), (4, .pointer (some ⟨g, 0, none⟩)), (5, .pointer (some ⟨_, 0, none⟩)), (6, I (0 : Nat))]) (fun q t H => ∃ (i gm : Nat) (f : Fd) (l lm : Hp), q = xs.length - i ∧ i ≤ xs.length ∧ LFd f g l ∧ FitF f ∧ RFd gm f lm ∧ f.es.length ≤ i ∧
      t = [(0, .slice a xs.length cp), (4, .pointer (some ⟨g, 0, none⟩)), (5, .pointer (some ⟨gm, 0, none⟩)), (6, I i)] ∧ H = lm ++ (l ++ []))
    ⟨0, _, .new, lr, [(_, _)], rfl, by omega, hL, FitF.new, RFd.new, Nat.le_refl _, rfl, rfl⟩ (by repeat (first | exact sub_nil | refine sub_cons rfl ?_)) ?_
  clear hL
  rintro q t H ⟨i, gm, f, l, lm, rfl, hi, hL, hF, hR, hln, rfl, rfl⟩
  by_cases hlt : i < xs.length
  · obtain ⟨⟨kind, k, n⟩, he⟩ := getP hlt
    have m1 := List.mem_of_getElem? he
    have hk0 := hn _ m1
    have hkk := hks _ m1
    obtain ⟨ga, o1, rfl, hg, hc⟩ := hat i _ (i : Int) he rfl
    have cA : ∀ (j : Nat) z, [.int .u8 kind, S k.1, S k.2.1, S k.2.2, I n][j]? = some z → w.cell? ⟨ga, o1 + (i : Int).toNat * 5 + j, none⟩ = some z := hc
    have hdo := fun m R => ldo_ok (m := m) (w0 := w) hL hF ⟨kind, k, n⟩ hk0 hkk R
    have hwa := fun m R => rwant_ok (m := m) (w0 := w) hR (by omega) ⟨kind, k, n⟩ hk0 R
    have hF2 := fit_doF hF (by omega) kind hkk n
    have hl2 := (do_wf hF.wf kind k n).2
    unfold LDid at hdo
    unfold RDid at hwa
    simp only at hdo hwa
    generalize doF f kind k n = X at hdo hwa hF2 hl2
    obtain ⟨er, f2⟩ := X
    simp only at hdo hwa hF2 hl2
    repeat' (first | refine aw_seq ?_ | ((first | apply ao_val | apply aq_val); exact wants_a; (first | exact ov_load_oa rfl hg cA rfl | exact ov_a); (exact rfl)) | refine zy ?_ | refine zon fun _ => ?_ | refine zoa fun vr lr hr => ?_ | ((apply ao_callH (l := l); exact wants_a; (exact oc_func rfl); (exact rfl); (exact Cut.skipA lm Cut.here); (exact hdo _ _); rintro _ _ ⟨rfl, l2, rfl, hL2⟩)) | ((apply ao_callH (l := lm); exact wants_a; (exact oc_func rfl); (exact rfl); (exact Cut.skipA l2 Cut.here); (exact hwa _ _); rintro _ _ ⟨rfl, lm2, rfl, hR2⟩)) | refine zoS (fun _ => ?_) (fun _ => ?_) | refine zqS (fun _ => ?_) (fun _ => ?_) | refine zwS (fun _ => ?_) (fun _ => ?_))
    obtain ⟨vK, vI, lK, lI, rfl, hK, hI⟩ := hR2
    obtain ⟨aK, cK, rfl⟩ := hK.len
    rw [List.cons_append, List.append_assoc]
    have ho := fun w' (hl : Lies w' l2) => lopen_ok hL2 hF2 w' hl
    have hn2 := fun w' (hl : Lies w' l2) => llen_ok hL2 hF2 w' hl
    have hs := fun w' (hl : Lies w' l2) => lsafe_ok hL2 hF2 w' hl
    have hd := fun w' (hl : Lies w' l2) => ldone_ok hL2 hF2 w' hl
    have hro := fun w' (h : RAt w' gm f2 (.slice aK f2.es.length cK) vI) => ropen_ok h (by omega)
    have hrs := fun w' (h : RAt w' gm f2 (.slice aK f2.es.length cK) vI) => rsafe_ok h (by omega)
    have hrd := fun w' (h : RAt w' gm f2 (.slice aK f2.es.length cK) vI) => rdone_ok h (by omega)
    have hol := openF_len f2
    repeat' (first | (apply ao_nilh; exact hsub_a) | apply ao_nil | apply aq_nil | apply ah_end | ((first | apply ao_val | apply aq_val | (apply ah_take; (exact rfl))); exact wants_a; (first | exact ov_nilcheck rfl | exact ov_a); (exact rfl)) | ((first | apply ao_skip | apply aq_skip | (apply ah_skip; (exact rfl))); exact nots_a; (exact rfl)) | (refine ao_is ?_; first | (apply ao_new; exact wants_a; exact on_a; (exact rfl); intro _) | (apply ao_store; exact wants_a; exact ow_a; exact upd_a) | (apply ao_valw; exact wants_a; exact ox_a; (exact rfl); exact upd_a) | (apply ao_skip0; exact nots_a) | (apply ao_append; exact wants_a; (exact rfl); assumption; (exact rfl); exact cut_a; exact has_a; (exact rfl); (exact rfl); omega; omega; omega; (exact rfl); intro vr lr hr)) | ((first | apply ao_call | apply aq_call); exact wants_a; (first | exact oc_func rfl | exact oc_clos rfl rfl | exact oc_bnd rfl rfl); (exact rfl); (first | exact fun w hw => ints_ok (openF f2) (by omega) _ _ w (hw.oldr r6 cut_a) (hw.oldr r7 cut_a) | exact fun w hw => hn2 w (lies_of hw (l := l2) cut_a) | exact fun w hw => hs w (lies_of hw (l := l2) cut_a) | exact fun w hw => hrs w (rAt_of hw has_a hK cut_a hI cut_a) | exact fun w hw => hd w (lies_of hw (l := l2) cut_a) | exact fun w hw => hrd w (rAt_of hw has_a hK cut_a hI cut_a))) | ((apply ao_callrg; exact wants_a; (exact oc_func rfl); (exact rfl); (intro w hw; exact ho w (lies_of hw (l := l2) cut_a)); intro v6 l6 r6; obtain ⟨a6, c6, hz6⟩ := r6.len; subst hz6)) | ((apply ao_callrg; exact wants_a; (exact oc_func rfl); (exact rfl); (intro w hw; exact hro w (rAt_of hw has_a hK cut_a hI cut_a)); intro v7 l7 r7; obtain ⟨a7, c7, hz7⟩ := r7.len; subst hz7)) | (apply ah_one; (exact rfl)) | (apply ah_two; (exact rfl); (exact rfl)) | (apply ah_three; (exact rfl); (exact rfl); (exact rfl)) | (refine aw_is ?_; first | (apply aw_held (id := 12) (pl := (.t 0 (.t 1 (.t 2 (.t 3 (.t 4 (.t 5 (.t 6 (.t 7 (.t 8 (.t 10 (.t 11 (.t 12 (.t 13 (.w 9 (.o 14 (.t 15 (.t 16 (.t 17 (.t 18 (.t 20 (.o 19 (.o 21 (.t 22 (.t 23 (.t 24 (.t 25 (.t 27 (.o 26 (.o 28 (.t 29 (.t 30 .e))))))))))))))))) 14 (.o 9 (.t 15 (.t 16 (.t 17 (.t 18 (.t 20 (.o 19 (.o 21 (.t 22 (.t 23 (.t 24 (.t 25 (.t 27 (.o 26 (.o 28 (.t 29 (.t 30 .e)))))))))))))))))))))))))))))))); (kernel_rfl); (kernel_rfl); (kernel_rfl); (solve | (exact List.Sublist.refl _))) | refine aw_seq ?_ | refine aw_block ?_ | refine aw_region ?_ | refine aw_skip ?_ | refine aw_exit ?_ | refine aw_ret ?_ | refine aw_label ?_ | refine aw_scope ?_ | refine aw_cond_t rfl (by with_reducible rfl) ?_ | refine aw_cond_f rfl (by with_reducible rfl) ?_ | refine aw_draw (by kernel_rfl) (by kernel_rfl) ?_) | (first | (refine ah_is ?_; (fail_if_success first | refine ah_glit (b := true) rfl rfl rfl (by with_reducible rfl) ?_ | refine ah_glit (b := false) rfl rfl rfl (by with_reducible rfl) ?_); apply ah_gt; (exact rfl); (exact rfl); (exact rfl); exact t_a) | ((refine ao_is ?_; (fail_if_success first | refine ao_glit (b := true) rfl rfl (by with_reducible rfl) ?_ | refine ao_glit (b := false) rfl rfl (by with_reducible rfl) ?_)); apply ao_gt; (exact rfl); (exact rfl); exact t_a) | ((refine aq_is ?_; (fail_if_success first | refine aq_glit (b := true) rfl rfl (by with_reducible rfl) ?_ | refine aq_glit (b := false) rfl rfl (by with_reducible rfl) ?_)); apply aq_gt; (exact rfl); (exact rfl); exact t_a) | (apply aw_ct; (exact rfl); exact t_a)) | (first | (refine ah_is ?_; (fail_if_success first | refine ah_glit (b := true) rfl rfl rfl (by with_reducible rfl) ?_ | refine ah_glit (b := false) rfl rfl rfl (by with_reducible rfl) ?_); apply ah_gf; (exact rfl); (exact rfl); (exact rfl); exact f_a) | ((refine ao_is ?_; (fail_if_success first | refine ao_glit (b := true) rfl rfl (by with_reducible rfl) ?_ | refine ao_glit (b := false) rfl rfl (by with_reducible rfl) ?_)); apply ao_gf; (exact rfl); (exact rfl); exact f_a) | ((refine aq_is ?_; (fail_if_success first | refine aq_glit (b := true) rfl rfl (by with_reducible rfl) ?_ | refine aq_glit (b := false) rfl rfl (by with_reducible rfl) ?_)); apply aq_gf; (exact rfl); (exact rfl); exact f_a) | (apply aw_cf; (exact rfl); exact f_a)) | refine at_normal ?_ | refine at_exit ?_ | refine at_ret ?_ | refine ib_normal ?_ | refine ib_exit ?_ | refine ib_other ?_ | refine ib_ret ?_ | refine lq_exit ?_ | refine lq_ret ?_ | refine ci_ret ?_ | refine ci_exit ?_ | refine r1_ret rfl ?_ | refine r1_normal rfl ?_ | refine r2_ret rfl rfl ?_ | refine r2_normal rfl rfl ?_ | refine r3_ret rfl rfl rfl ?_ | refine r3_normal rfl rfl rfl ?_ | refine ng_normal ?_ | refine ng_exit ?_ | refine ng_ret ?_ | (apply rt_ret; (exact rfl); (exact rfl); (exact rfl); exact has_a; exact has_a; (exact rfl); (exact rfl)) | (apply rc1_ret; (exact rfl); exact has_a; (exact rfl)) | (apply rc2_ret; (exact rfl); exact has_a; (exact rfl); (exact rfl)) | (refine ao_is ?_; (fail_if_success first | refine ao_glit (b := true) rfl rfl (by with_reducible rfl) ?_ | refine ao_glit (b := false) rfl rfl (by with_reducible rfl) ?_); refine ao_gbool rfl rfl (fun _ => ?_) (fun _ => ?_)) | (refine aq_is ?_; (fail_if_success first | refine aq_glit (b := true) rfl rfl (by with_reducible rfl) ?_ | refine aq_glit (b := false) rfl rfl (by with_reducible rfl) ?_); refine aq_gbool rfl rfl (fun _ => ?_) (fun _ => ?_)) | (refine aw_is ?_; refine aw_cond rfl (fun _ => ?_) (fun _ => ?_)))
    all_goals exact lq_normal' (H' := ((gm, .cells #[.slice aK f2.es.length cK, vI, I f2.cov] 31 (0, 0)) :: (lK ++ lI)) ++ (l2 ++ [])) ⟨i + 1, gm, f2, l2, _, rfl, by omega, hL2, hF2, ⟨_, _, lK, lI, rfl, hK, hI⟩, by omega, rfl, rfl⟩ (by omega) (by repeat (first | exact sub_nil | refine sub_cons rfl ?_)) (by rw [List.cons_append, List.append_assoc]; exact hsub_a)
  · obtain rfl : i = xs.length := by omega
    repeat' (first | refine aw_seq ?_ | refine zz ?_ | refine zon fun _ => ?_ | refine zoa fun vr lr hr => ?_ | refine zoS (fun _ => ?_) (fun _ => ?_) | refine zqS (fun _ => ?_) (fun _ => ?_) | refine zwS (fun _ => ?_) (fun _ => ?_))
    refine aw_for (t0 := [(10, .pointer none), (11, I (0 : Nat))]) (fun q t H => ∃ i : Nat, q = 7 - i ∧ i ≤ 7 ∧ t = [(10, .pointer none), (11, I i)]) ⟨0, rfl, by omega, rfl⟩ (by repeat (first | exact sub_nil | refine sub_cons rfl ?_)) ?_
    rintro q t H ⟨i, rfl, hi, rfl⟩
    by_cases hl7 : i < 7
    · have hw7 := wrap7 i hl7
      have hd0 := fun w' => ldo0_ok ⟨(i : Int), ([], [], []), 0⟩ (by simp only; omega) w'
      simp only at hd0
      by_cases h2 : i < 2
      · rw [if_pos (by omega)] at hd0
        have h1i : (!(((0 : Int) == 1) == decide ((1 : Int) < (i : Int)))) = false := by rw [decide_eq_false (by omega)]; rfl
        repeat' (first | refine aw_seq ?_ | ((first | apply ao_val | apply aq_val); exact wants_a; (first | exact ov_convR (k := .u8) (i : Int) rfl hw7 | exact ov_a); (exact rfl)) | refine zy ?_ | refine zon fun _ => ?_ | refine zoa fun vr lr hr => ?_ | ((first | apply ao_call | apply aq_call); exact wants_a; (first | exact oc_func rfl | exact oc_clos rfl rfl | exact oc_bnd rfl rfl); (exact rfl); (first | exact fun w hw => hd0 w)) | refine zoS (fun _ => ?_) (fun _ => ?_) | refine zqS (fun _ => ?_) (fun _ => ?_) | refine zwS (fun _ => ?_) (fun _ => ?_))
        exact lq_normal' ⟨i + 1, rfl, by omega, rfl⟩ (by omega) (by repeat (first | exact sub_nil | refine sub_cons rfl ?_)) hsub_a
      · rw [if_neg (by omega)] at hd0
        have h1i : (!(((1 : Int) == 1) == decide ((1 : Int) < (i : Int)))) = false := by rw [decide_eq_true (by omega)]; rfl
        repeat' (first | refine aw_seq ?_ | ((first | apply ao_val | apply aq_val); exact wants_a; (first | exact ov_convR (k := .u8) (i : Int) rfl hw7 | exact ov_a); (exact rfl)) | refine zy ?_ | refine zon fun _ => ?_ | refine zoa fun vr lr hr => ?_ | ((first | apply ao_call | apply aq_call); exact wants_a; (first | exact oc_func rfl | exact oc_clos rfl rfl | exact oc_bnd rfl rfl); (exact rfl); (first | exact fun w hw => hd0 w)) | refine zoS (fun _ => ?_) (fun _ => ?_) | refine zqS (fun _ => ?_) (fun _ => ?_) | refine zwS (fun _ => ?_) (fun _ => ?_))
        exact lq_normal' ⟨i + 1, rfl, by omega, rfl⟩ (by omega) (by repeat (first | exact sub_nil | refine sub_cons rfl ?_)) hsub_a
    · obtain rfl : i = 7 := by omega
      repeat' (first | refine aw_seq ?_ | refine zz ?_ | refine zon fun _ => ?_ | refine zoa fun vr lr hr => ?_ | ((first | apply ao_call | apply aq_call); exact wants_a; (first | exact oc_func rfl | exact oc_clos rfl rfl | exact oc_bnd rfl rfl); (exact rfl); (first | exact fun w hw => alive_ok w | exact fun w hw => lsafe0_ok w | exact fun w hw => ldone0_ok w | exact fun w hw => llen0_ok w)) | (apply ao_callr; exact wants_a; (exact oc_func rfl); (exact rfl); (first | exact fun w hw => lopen0_ok w); intro vr lr hr) | refine zoS (fun _ => ?_) (fun _ => ?_) | refine zqS (fun _ => ?_) (fun _ => ?_) | refine zwS (fun _ => ?_) (fun _ => ?_))
      obtain ⟨xo, yo, hxo⟩ := hr.len
      subst hxo
      repeat' (first | refine aw_seq ?_ | refine zz ?_ | refine zon fun _ => ?_ | refine zoa fun vr lr hr => ?_ | ((first | apply ao_call | apply aq_call); exact wants_a; (first | exact oc_func rfl | exact oc_clos rfl rfl | exact oc_bnd rfl rfl); (exact rfl); (first | exact fun w hw => alive_ok w | exact fun w hw => lsafe0_ok w | exact fun w hw => ldone0_ok w | exact fun w hw => llen0_ok w)) | refine zoS (fun _ => ?_) (fun _ => ?_) | refine zqS (fun _ => ?_) (fun _ => ?_) | refine zwS (fun _ => ?_) (fun _ => ?_))
      exact fun w' hw => ⟨rfl, hw.below⟩
end Fdt
end Go.Proofs.Ytpenogailhlcaaa
