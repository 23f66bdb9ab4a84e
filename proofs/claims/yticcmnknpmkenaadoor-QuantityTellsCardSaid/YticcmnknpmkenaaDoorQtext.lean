/- Contract of the landed Text of layer 3; conditions: the tables as they were laid. -/
import Derived.Test.YticcmnknpmkenaaDoorQprog
import Derived.Test.YticcmnknpmkenaaDoorShelf
namespace Go.Proofs.YticcmnknpmkenaaDoor
namespace Qty
open Go Go.RowKit Sx Wid
attribute [local irreducible] Go.Calls

theorem below_grow (w : World) (k : Nat) (os : Array Obj) : Below w.heap.size w (Go.Sort.grow (w.drewN k) os) := by
  refine ⟨rfl, rfl, rfl, ?_, fun i hi => ?_⟩
  · show w.heap.size ≤ (w.heap ++ os).size
    simp
  · show (w.heap ++ os)[i]? = w.heap[i]?
    exact Array.getElem?_append_left hi
theorem dec_fig : ∀ (k : Nat) (n : Int), 0 ≤ n → n / 10 ^ (k + 1) = 0 → Lib.decDigits n.toNat = figB n (lenF k n)
  | 0, n, h0, h => by
    have hlt : n < 10 := by simp at h; omega
    rw [Lib.decDigits, dif_pos (by omega)]
    show _ = figB n (0 + 1)
    rw [figB_succ]
    have h10 : dig n 0 = n := by unfold dig; simp; omega
    rw [h10]
    show _ = [fb n]
    unfold fb
    congr 2
    omega
  | k + 1, n, h0, h => by
    have key : ∀ j, n / 10 / 10 ^ j = n / 10 ^ (j + 1) := fun j => by rw [Int.pow_succ, Int.mul_comm, ← dd _ _ (by decide)]
    have h10 : dig n 0 = n % 10 := by unfold dig; simp
    by_cases hz : n / 10 = 0
    · rw [show lenF (k + 1) n = 0 + 1 by unfold lenF; rw [if_pos hz], figB_succ, h10]
      rw [Lib.decDigits, dif_pos (by omega)]
      show _ = [fb (n % 10)]
      unfold fb
      congr 2
      omega
    · have ih := dec_fig k (n / 10) (by omega) (by rw [key]; exact h)
      rw [show lenF (k + 1) n = lenF k (n / 10) + 1 by conv => { lhs; unfold lenF }; rw [if_neg hz], figB_succ, h10]
      rw [Lib.decDigits, dif_neg (by omega), ← ih]
      have e1 : n.toNat / 10 = (n / 10).toNat := by omega
      rw [e1]
      congr 1
      unfold fb
      congr 2
      omega
theorem itoa_fig {n : Int} (h0 : 0 ≤ n) (h1 : n ≤ 9223372036854775807) : Lib.itoa n = figT n := by
  unfold Lib.itoa
  rw [if_neg (by omega)]
  exact dec_fig 19 n h0 (by rw [show (10 : Int) ^ (19 + 1) = 100000000000000000000 by decide]; omega)
theorem fmt_ok (n : Int) (h0 : 0 ≤ n) (h1 : n ≤ 9223372036854775807) (w : World) (hG : Gl w) : Calls Tryd.prog 17 #[I n, I 10] w fun e w' => e = .returned (S (figT n)) ∧ Below w.heap.size w w' := by
  refine (Tryd.strconv_FormatInt_10 n (by omega) h1 w hG.2.1).mono fun e w' h => ?_
  obtain ⟨rfl, k, os, rfl⟩ := h
  rw [itoa_fig h0 h1]
  exact ⟨rfl, below_grow w k os⟩

/-- The own text, from the i-th suffix of the table on. -/
theorem sc_suf (i : Nat) (h : i < 8) : ∃ s f, scL[i]? = some (s, f) ∧ sufs[i]? = some s := by
  match i, h with
  | 0, _ | 1, _ | 2, _ | 3, _ | 4, _ | 5, _ | 6, _ | 7, _ => exact ⟨_, _, rfl, rfl⟩

set_option maxHeartbeats 4000000 in
theorem text_ok (n : Int) (h0 : -9223372036854775808 ≤ n) (h1 : n ≤ 9223372036854775807) (w : World) (hG : Gl w) : Calls Tryd.prog 9 #[I n] w fun e w' => e = .returned (S (ownT n)) ∧ Below w.heap.size w w' := by
  refine calls1 (args := [I n]) Tryd.func9 rfl rfl rfl rfl ?_
  by_cases hneg : n < 0
  · repeat' (first | (apply ao_nilh; exact hsub_a) | apply ao_nil | apply aq_nil | apply ah_end | ((first | apply ao_val | apply aq_val | (apply ah_take; (exact rfl))); exact wants_a; exact ov_a; (exact rfl)) | ((first | apply ao_skip | apply aq_skip | (apply ah_skip; (exact rfl))); exact nots_a; (exact rfl)) | (refine ao_is ?_; first | (apply ao_new; exact wants_a; exact on_a; (exact rfl); intro _) | (apply ao_store; exact wants_a; exact ow_a; exact upd_a) | (apply ao_valw; exact wants_a; exact ox_a; (exact rfl); exact upd_a) | (apply ao_skip0; exact nots_a) | (apply ao_append; exact wants_a; (exact rfl); assumption; (exact rfl); exact cut_a; exact has_a; (exact rfl); (exact rfl); omega; omega; omega; (exact rfl); intro vr lr hr)) | (apply ah_one; (exact rfl)) | (apply ah_two; (exact rfl); (exact rfl)) | (refine aw_is ?_; first | refine aw_seq ?_ | refine aw_block ?_ | refine aw_region ?_ | refine aw_skip ?_ | refine aw_exit ?_ | refine aw_ret ?_ | refine aw_label ?_ | refine aw_scope ?_ | refine aw_cond_t rfl (by with_reducible rfl) ?_ | refine aw_cond_f rfl (by with_reducible rfl) ?_ | refine aw_draw (by kernel_rfl) (by kernel_rfl) ?_) | ((first | (apply ao_gt; (exact rfl)) | (apply aq_gt; (exact rfl)) | apply aw_ct); (exact rfl); exact t_a) | ((first | (apply ao_gf; (exact rfl)) | (apply aq_gf; (exact rfl)) | apply aw_cf); (exact rfl); exact f_a) | refine at_normal ?_ | refine at_exit ?_ | refine at_ret ?_ | refine ib_normal ?_ | refine ib_exit ?_ | refine ib_other ?_ | refine ib_ret ?_ | refine lq_exit ?_ | refine lq_ret ?_ | refine ci_ret ?_ | refine ci_exit ?_ | refine r1_ret rfl ?_ | refine r1_normal rfl ?_ | refine r2_ret rfl rfl ?_ | refine r2_normal rfl rfl ?_ | refine r3_ret rfl rfl rfl ?_ | refine r3_normal rfl rfl rfl ?_ | refine ng_normal ?_ | refine ng_exit ?_ | refine ng_ret ?_ | (apply rc1_ret; (exact rfl); exact has_a; (exact rfl)) | (apply rc2_ret; (exact rfl); exact has_a; (exact rfl); (exact rfl)) | (refine ao_is ?_; (fail_if_success first | refine ao_glit (b := true) rfl rfl (by with_reducible rfl) ?_ | refine ao_glit (b := false) rfl rfl (by with_reducible rfl) ?_); refine ao_gbool rfl rfl (fun _ => ?_) (fun _ => ?_)) | (refine aq_is ?_; (fail_if_success first | refine aq_glit (b := true) rfl rfl (by with_reducible rfl) ?_ | refine aq_glit (b := false) rfl rfl (by with_reducible rfl) ?_); refine aq_gbool rfl rfl (fun _ => ?_) (fun _ => ?_)) | (refine aw_is ?_; refine aw_cond rfl (fun _ => ?_) (fun _ => ?_)))
    exact fun w' hw => ⟨by simp [ownT, hneg], hw.below⟩
  by_cases hzero : n = 0
  · repeat' (first | (apply ao_nilh; exact hsub_a) | apply ao_nil | apply aq_nil | apply ah_end | ((first | apply ao_val | apply aq_val | (apply ah_take; (exact rfl))); exact wants_a; exact ov_a; (exact rfl)) | ((first | apply ao_skip | apply aq_skip | (apply ah_skip; (exact rfl))); exact nots_a; (exact rfl)) | (refine ao_is ?_; first | (apply ao_new; exact wants_a; exact on_a; (exact rfl); intro _) | (apply ao_store; exact wants_a; exact ow_a; exact upd_a) | (apply ao_valw; exact wants_a; exact ox_a; (exact rfl); exact upd_a) | (apply ao_skip0; exact nots_a) | (apply ao_append; exact wants_a; (exact rfl); assumption; (exact rfl); exact cut_a; exact has_a; (exact rfl); (exact rfl); omega; omega; omega; (exact rfl); intro vr lr hr)) | (apply ah_one; (exact rfl)) | (apply ah_two; (exact rfl); (exact rfl)) | (refine aw_is ?_; first | refine aw_seq ?_ | refine aw_block ?_ | refine aw_region ?_ | refine aw_skip ?_ | refine aw_exit ?_ | refine aw_ret ?_ | refine aw_label ?_ | refine aw_scope ?_ | refine aw_cond_t rfl (by with_reducible rfl) ?_ | refine aw_cond_f rfl (by with_reducible rfl) ?_ | refine aw_draw (by kernel_rfl) (by kernel_rfl) ?_) | ((first | (apply ao_gt; (exact rfl)) | (apply aq_gt; (exact rfl)) | apply aw_ct); (exact rfl); exact t_a) | ((first | (apply ao_gf; (exact rfl)) | (apply aq_gf; (exact rfl)) | apply aw_cf); (exact rfl); exact f_a) | refine at_normal ?_ | refine at_exit ?_ | refine at_ret ?_ | refine ib_normal ?_ | refine ib_exit ?_ | refine ib_other ?_ | refine ib_ret ?_ | refine lq_exit ?_ | refine lq_ret ?_ | refine ci_ret ?_ | refine ci_exit ?_ | refine r1_ret rfl ?_ | refine r1_normal rfl ?_ | refine r2_ret rfl rfl ?_ | refine r2_normal rfl rfl ?_ | refine r3_ret rfl rfl rfl ?_ | refine r3_normal rfl rfl rfl ?_ | refine ng_normal ?_ | refine ng_exit ?_ | refine ng_ret ?_ | (apply rc1_ret; (exact rfl); exact has_a; (exact rfl)) | (apply rc2_ret; (exact rfl); exact has_a; (exact rfl); (exact rfl)) | (refine ao_is ?_; (fail_if_success first | refine ao_glit (b := true) rfl rfl (by with_reducible rfl) ?_ | refine ao_glit (b := false) rfl rfl (by with_reducible rfl) ?_); refine ao_gbool rfl rfl (fun _ => ?_) (fun _ => ?_)) | (refine aq_is ?_; (fail_if_success first | refine aq_glit (b := true) rfl rfl (by with_reducible rfl) ?_ | refine aq_glit (b := false) rfl rfl (by with_reducible rfl) ?_); refine aq_gbool rfl rfl (fun _ => ?_) (fun _ => ?_)) | (refine aw_is ?_; refine aw_cond rfl (fun _ => ?_) (fun _ => ?_)))
    exact fun w' hw => ⟨by simp [ownT, hzero], hw.below⟩
  have hown : ownT n = ownFrom n sufs := by simp [ownT, hneg, hzero]
  rw [hown]
  repeat' (first | (apply ao_nilh; exact hsub_a) | apply ao_nil | apply aq_nil | apply ah_end | ((first | apply ao_val | apply aq_val | (apply ah_take; (exact rfl))); exact wants_a; (first | exact ov_load_ga rfl hG.1 rfl rfl | exact ov_a); (exact rfl)) | ((first | apply ao_skip | apply aq_skip | (apply ah_skip; (exact rfl))); exact nots_a; (exact rfl)) | (refine ao_is ?_; first | (apply ao_new; exact wants_a; exact on_a; (exact rfl); intro _) | (apply ao_store; exact wants_a; exact ow_a; exact upd_a) | (apply ao_valw; exact wants_a; exact ox_a; (exact rfl); exact upd_a) | (apply ao_skip0; exact nots_a) | (apply ao_append; exact wants_a; (exact rfl); assumption; (exact rfl); exact cut_a; exact has_a; (exact rfl); (exact rfl); omega; omega; omega; (exact rfl); intro vr lr hr)) | (apply ah_one; (exact rfl)) | (apply ah_two; (exact rfl); (exact rfl)) | (refine aw_is ?_; first | refine aw_seq ?_ | refine aw_block ?_ | refine aw_region ?_ | refine aw_skip ?_ | refine aw_exit ?_ | refine aw_ret ?_ | refine aw_label ?_ | refine aw_scope ?_ | refine aw_cond_t rfl (by with_reducible rfl) ?_ | refine aw_cond_f rfl (by with_reducible rfl) ?_ | refine aw_draw (by kernel_rfl) (by kernel_rfl) ?_) | ((first | (apply ao_gt; (exact rfl)) | (apply aq_gt; (exact rfl)) | apply aw_ct); (exact rfl); exact t_a) | ((first | (apply ao_gf; (exact rfl)) | (apply aq_gf; (exact rfl)) | apply aw_cf); (exact rfl); exact f_a) | refine at_normal ?_ | refine at_exit ?_ | refine at_ret ?_ | refine ib_normal ?_ | refine ib_exit ?_ | refine ib_other ?_ | refine ib_ret ?_ | refine lq_exit ?_ | refine lq_ret ?_ | refine ci_ret ?_ | refine ci_exit ?_ | refine r1_ret rfl ?_ | refine r1_normal rfl ?_ | refine r2_ret rfl rfl ?_ | refine r2_normal rfl rfl ?_ | refine r3_ret rfl rfl rfl ?_ | refine r3_normal rfl rfl rfl ?_ | refine ng_normal ?_ | refine ng_exit ?_ | refine ng_ret ?_ | (apply rc1_ret; (exact rfl); exact has_a; (exact rfl)) | (apply rc2_ret; (exact rfl); exact has_a; (exact rfl); (exact rfl)) | (refine ao_is ?_; (fail_if_success first | refine ao_glit (b := true) rfl rfl (by with_reducible rfl) ?_ | refine ao_glit (b := false) rfl rfl (by with_reducible rfl) ?_); refine ao_gbool rfl rfl (fun _ => ?_) (fun _ => ?_)) | (refine aq_is ?_; (fail_if_success first | refine aq_glit (b := true) rfl rfl (by with_reducible rfl) ?_ | refine aq_glit (b := false) rfl rfl (by with_reducible rfl) ?_); refine aq_gbool rfl rfl (fun _ => ?_) (fun _ => ?_)) | (refine aw_is ?_; refine aw_cond rfl (fun _ => ?_) (fun _ => ?_)))
  refine aw_for (t0 := [(0, I n), (9, .agg scV.toArray), (10, I (0 : Nat))]) (fun q t H => ∃ i : Nat, q = 9 - i ∧ i ≤ 8 ∧ ownFrom n (sufs.drop i) = ownFrom n sufs ∧ t = [(0, I n), (9, .agg scV.toArray), (10, I i)] ∧ H = []) ⟨0, rfl, by omega, rfl, rfl, rfl⟩ (by repeat (first | exact sub_nil | refine sub_cons rfl ?_)) ?_
  rintro q t H ⟨i, rfl, hi, hfrom, rfl, rfl⟩
  have hi9 : i < 9 := by omega
  obtain ⟨s, f, hs, -, hcell, hf, hf1, hf2, hsl⟩ := sc_get i hi9
  have hb1 : 0 ≤ n / f := Int.ediv_nonneg (by omega) (by omega)
  have hb2 : n / f ≤ 9223372036854775807 := Int.le_trans (Int.ediv_le_self _ (by omega)) h1
  have hfl := figT_len (n / f)
  by_cases hm : n % f = 0
  · have hres : ownFrom n sufs = figT (n / f) ++ s := by
      rw [← hfrom]
      by_cases h8 : i < 8
      · obtain ⟨s', f', hs', hsu⟩ := sc_suf i h8
        rw [hs] at hs'; cases hs'
        have hlen := (List.getElem?_eq_some_iff.1 hsu).1
        have hget := (List.getElem?_eq_some_iff.1 hsu).2
        rw [List.drop_eq_getElem_cons hlen, hget]
        show (if n % facI s = 0 then figT (n / facI s) ++ s else _) = _
        rw [hf, if_pos hm]
      · obtain rfl : i = 8 := by omega
        cases hs
        show figT n = _
        simp
    rw [hres]
    repeat' (first | (apply ao_nilh; exact hsub_a) | apply ao_nil | apply aq_nil | apply ah_end | ((first | apply ao_val | apply aq_val | (apply ah_take; (exact rfl))); exact wants_a; (first | exact ov_aindex rfl rfl rfl hi9 hcell | exact ov_a); (exact rfl)) | ((first | apply ao_skip | apply aq_skip | (apply ah_skip; (exact rfl))); exact nots_a; (exact rfl)) | (refine ao_is ?_; first | (apply ao_new; exact wants_a; exact on_a; (exact rfl); intro _) | (apply ao_store; exact wants_a; exact ow_a; exact upd_a) | (apply ao_valw; exact wants_a; exact ox_a; (exact rfl); exact upd_a) | (apply ao_skip0; exact nots_a) | (apply ao_append; exact wants_a; (exact rfl); assumption; (exact rfl); exact cut_a; exact has_a; (exact rfl); (exact rfl); omega; omega; omega; (exact rfl); intro vr lr hr)) | ((first | apply ao_call | apply aq_call); exact wants_a; (exact oc_func rfl); (exact rfl); (first | exact fun w hw => fmt_ok _ hb1 hb2 w (hG.below hw.below))) | (apply ah_one; (exact rfl)) | (apply ah_two; (exact rfl); (exact rfl)) | (refine aw_is ?_; first | refine aw_seq ?_ | refine aw_block ?_ | refine aw_region ?_ | refine aw_skip ?_ | refine aw_exit ?_ | refine aw_ret ?_ | refine aw_label ?_ | refine aw_scope ?_ | refine aw_cond_t rfl (by with_reducible rfl) ?_ | refine aw_cond_f rfl (by with_reducible rfl) ?_ | refine aw_draw (by kernel_rfl) (by kernel_rfl) ?_) | ((first | (apply ao_gt; (exact rfl)) | (apply aq_gt; (exact rfl)) | apply aw_ct); (exact rfl); exact t_a) | ((first | (apply ao_gf; (exact rfl)) | (apply aq_gf; (exact rfl)) | apply aw_cf); (exact rfl); exact f_a) | refine at_normal ?_ | refine at_exit ?_ | refine at_ret ?_ | refine ib_normal ?_ | refine ib_exit ?_ | refine ib_other ?_ | refine ib_ret ?_ | refine lq_exit ?_ | refine lq_ret ?_ | refine ci_ret ?_ | refine ci_exit ?_ | refine r1_ret rfl ?_ | refine r1_normal rfl ?_ | refine r2_ret rfl rfl ?_ | refine r2_normal rfl rfl ?_ | refine r3_ret rfl rfl rfl ?_ | refine r3_normal rfl rfl rfl ?_ | refine ng_normal ?_ | refine ng_exit ?_ | refine ng_ret ?_ | (apply rc1_ret; (exact rfl); exact has_a; (exact rfl)) | (apply rc2_ret; (exact rfl); exact has_a; (exact rfl); (exact rfl)) | (refine ao_is ?_; (fail_if_success first | refine ao_glit (b := true) rfl rfl (by with_reducible rfl) ?_ | refine ao_glit (b := false) rfl rfl (by with_reducible rfl) ?_); refine ao_gbool rfl rfl (fun _ => ?_) (fun _ => ?_)) | (refine aq_is ?_; (fail_if_success first | refine aq_glit (b := true) rfl rfl (by with_reducible rfl) ?_ | refine aq_glit (b := false) rfl rfl (by with_reducible rfl) ?_); refine aq_gbool rfl rfl (fun _ => ?_) (fun _ => ?_)) | (refine aw_is ?_; refine aw_cond rfl (fun _ => ?_) (fun _ => ?_)))
    exact fun w' hw => ⟨rfl, hw.below⟩
  · have h8 : i < 8 := by
      rcases Nat.lt_or_ge i 8 with h | h
      · exact h
      · obtain rfl : i = 8 := by omega
        cases hs
        exact absurd (Int.emod_one n) hm
    have hnext : ownFrom n (sufs.drop (i + 1)) = ownFrom n sufs := by
      rw [← hfrom]
      obtain ⟨s', f', hs', hsu⟩ := sc_suf i h8
      rw [hs] at hs'; cases hs'
      have hlen := (List.getElem?_eq_some_iff.1 hsu).1
      have hget := (List.getElem?_eq_some_iff.1 hsu).2
      conv => { rhs; rw [List.drop_eq_getElem_cons hlen, hget] }
      show _ = (if n % facI s = 0 then figT (n / facI s) ++ s else _)
      rw [hf, if_neg hm]
    have hm' : (n % f == 0) = false := beq_eq_false_iff_ne.2 hm
    repeat' (first | (apply ao_nilh; exact hsub_a) | apply ao_nil | apply aq_nil | apply ah_end | ((first | apply ao_val | apply aq_val | (apply ah_take; (exact rfl))); exact wants_a; (first | exact ov_aindex rfl rfl rfl hi9 hcell | exact ov_a); (exact rfl)) | ((first | apply ao_skip | apply aq_skip | (apply ah_skip; (exact rfl))); exact nots_a; (exact rfl)) | (refine ao_is ?_; first | (apply ao_new; exact wants_a; exact on_a; (exact rfl); intro _) | (apply ao_store; exact wants_a; exact ow_a; exact upd_a) | (apply ao_valw; exact wants_a; exact ox_a; (exact rfl); exact upd_a) | (apply ao_skip0; exact nots_a) | (apply ao_append; exact wants_a; (exact rfl); assumption; (exact rfl); exact cut_a; exact has_a; (exact rfl); (exact rfl); omega; omega; omega; (exact rfl); intro vr lr hr)) | (apply ah_one; (exact rfl)) | (apply ah_two; (exact rfl); (exact rfl)) | (refine aw_is ?_; first | refine aw_seq ?_ | refine aw_block ?_ | refine aw_region ?_ | refine aw_skip ?_ | refine aw_exit ?_ | refine aw_ret ?_ | refine aw_label ?_ | refine aw_scope ?_ | refine aw_cond_t rfl (by with_reducible rfl) ?_ | refine aw_cond_f rfl (by with_reducible rfl) ?_ | refine aw_draw (by kernel_rfl) (by kernel_rfl) ?_) | ((first | (apply ao_gt; (exact rfl)) | (apply aq_gt; (exact rfl)) | apply aw_ct); (exact rfl); exact t_a) | ((first | (apply ao_gf; (exact rfl)) | (apply aq_gf; (exact rfl)) | apply aw_cf); (exact rfl); exact f_a) | refine at_normal ?_ | refine at_exit ?_ | refine at_ret ?_ | refine ib_normal ?_ | refine ib_exit ?_ | refine ib_other ?_ | refine ib_ret ?_ | refine lq_exit ?_ | refine lq_ret ?_ | refine ci_ret ?_ | refine ci_exit ?_ | refine r1_ret rfl ?_ | refine r1_normal rfl ?_ | refine r2_ret rfl rfl ?_ | refine r2_normal rfl rfl ?_ | refine r3_ret rfl rfl rfl ?_ | refine r3_normal rfl rfl rfl ?_ | refine ng_normal ?_ | refine ng_exit ?_ | refine ng_ret ?_ | (apply rc1_ret; (exact rfl); exact has_a; (exact rfl)) | (apply rc2_ret; (exact rfl); exact has_a; (exact rfl); (exact rfl)) | (refine ao_is ?_; (fail_if_success first | refine ao_glit (b := true) rfl rfl (by with_reducible rfl) ?_ | refine ao_glit (b := false) rfl rfl (by with_reducible rfl) ?_); refine ao_gbool rfl rfl (fun _ => ?_) (fun _ => ?_)) | (refine aq_is ?_; (fail_if_success first | refine aq_glit (b := true) rfl rfl (by with_reducible rfl) ?_ | refine aq_glit (b := false) rfl rfl (by with_reducible rfl) ?_); refine aq_gbool rfl rfl (fun _ => ?_) (fun _ => ?_)) | (refine aw_is ?_; refine aw_cond rfl (fun _ => ?_) (fun _ => ?_)))
    exact lq_normal' ⟨i + 1, rfl, by omega, hnext, rfl, rfl⟩ (by omega) (by repeat (first | exact sub_nil | refine sub_cons rfl ?_)) hsub_a
end Qty
end Go.Proofs.YticcmnknpmkenaaDoor
