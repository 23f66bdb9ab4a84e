/- Contracts of the library's stable sort over objects: the merge; conditions: rows of at most 1,000,000 elements. -/
import Derived.Test.YtdakeicfhbggeaaGreatSrm
/- Srn: Contracts of the library's stable sort over objects: the merge; conditions: rows of at most 1,000,000 elements. -/
namespace Go.Proofs.YtdakeicfhbggeaaGreat
namespace Srw
open Go Go.RowKit Sx Srt
attribute [local irreducible] Go.Calls
variable {α : Type} {f : α → List Value}
set_option maxHeartbeats 16000000 in
theorem sym_left {c : FuncId} [FnB Tryz.prog c] {lt : α → α → Prop} {x : α → Nat} {cmp : α → α → Int} (hC : Cmp f c lt x cmp) {B mm : Nat} {w0 : World} (g n a b : Nat) (d : Nat → α) (hmb : a + 1 < b) (hb : b ≤ n) (hn : n ≤ 1000000)
    (h2 : Ord lt d (a + 1) b) (hx : Came x d a (a + 1) b) (R : Hp) :
    CallsH Tryz.prog ⟨B, w0, mm⟩ 158 [SV g n, I a, I (a + 1 : Nat), I b, FV c] ([RO f g n d] ++ R) (SortedTo lt f g n a b d R) := by
  refine callsH0 (K := fun H' => ∃ e, Mv a b d e ∧ Ord lt e a b ∧ H' = RO f g n e :: R) Tryz.func158 rfl rfl rfl rfl ?_
  repeat' (first | refine aw_seq ?_ | refine zz ?_ | refine zon fun _ => ?_ | refine zoa fun vr lr hr => ?_ | refine zoS (fun _ => ?_) (fun _ => ?_) | refine zqS (fun _ => ?_) (fun _ => ?_) | refine zwS (fun _ => ?_) (fun _ => ?_))
  refine aw_for (t0 := [(0, SV g n), (1, I a), (4, FV c), (10, I (a + 1 : Nat)), (11, I b)]) (fun q t H => ∃ i j : Nat, q = j - i ∧ a + 1 ≤ i ∧ i ≤ j ∧ j ≤ b ∧ (∀ k, a + 1 ≤ k → k < i → lt (d k) (d a)) ∧ (∀ k, j ≤ k → k < b → lt (d a) (d k)) ∧ t = [(0, SV g n), (1, I a), (4, FV c), (10, I i), (11, I j)] ∧ H = RO f g n d :: R)
    ⟨a + 1, b, rfl, by omega, by omega, by omega, fun k g1 g2 => by omega, fun k g1 g2 => by omega, rfl, rfl⟩ (by repeat (first | exact sub_nil | refine sub_cons rfl ?_)) ?_
  rintro q t H ⟨i, j, rfl, hi, hij, hj, hlo, hhi, rfl, rfl⟩
  by_cases hlt : i < j
  · obtain ⟨h, hh⟩ : ∃ h : Nat, h = (i + j) / 2 := ⟨_, rfl⟩
    have s1 := rowL_sl (f := f) (n := n) hC.len (by omega) (d := d) (i := h) (by omega) (z := (h : Int)) rfl
    have s2 := rowL_sl (f := f) (n := n) hC.len (by omega) (d := d) (i := a) (by omega) (z := (a : Int)) rfl
    have hcl := fun w => hC.call (d h) (d a) w
    have hca := hx a h (by omega) (by omega) (by omega) (by omega)
    cases hc : decide (cmp (d h) (d a) < 0)
    · have hm := hC.more _ _ hca hc
      repeat' (first | refine aw_seq ?_ | ((first | apply ao_val | apply aq_val); exact wants_a; (first | exact ov_shrR 1 (h : Int) rfl rfl rfl (by decide) (by omega) | exact ov_a); (exact rfl)) | refine zy ?_ | refine zon fun _ => ?_ | refine zoa fun vr lr hr => ?_ | ((first | apply ao_call | apply aq_call); exact wants_a; (first | exact oc_func rfl | exact oc_clos rfl rfl | exact oc_bnd rfl rfl); (exact rfl); (first | exact fun w hw => hcl w)) | refine zoS (fun _ => ?_) (fun _ => ?_) | refine zqS (fun _ => ?_) (fun _ => ?_) | refine zwS (fun _ => ?_) (fun _ => ?_))
      exact lq_normal' ⟨i, h, rfl, hi, by omega, by omega, hlo, fun k g1 g2 => h2.ltr hC.trans (by omega) g1 g2 hm, rfl, rfl⟩ (by omega) (by repeat (first | exact sub_nil | refine sub_cons rfl ?_)) (List.Sublist.refl _)
    · have hm := hC.less _ _ hca hc
      repeat' (first | refine aw_seq ?_ | ((first | apply ao_val | apply aq_val); exact wants_a; (first | exact ov_shrR 1 (h : Int) rfl rfl rfl (by decide) (by omega) | exact ov_a); (exact rfl)) | refine zy ?_ | refine zon fun _ => ?_ | refine zoa fun vr lr hr => ?_ | ((first | apply ao_call | apply aq_call); exact wants_a; (first | exact oc_func rfl | exact oc_clos rfl rfl | exact oc_bnd rfl rfl); (exact rfl); (first | exact fun w hw => hcl w)) | refine zoS (fun _ => ?_) (fun _ => ?_) | refine zqS (fun _ => ?_) (fun _ => ?_) | refine zwS (fun _ => ?_) (fun _ => ?_))
      rw [show ((h : Int) + 1) = ((h + 1 : Nat) : Int) by omega]
      exact lq_normal' ⟨h + 1, j, rfl, by omega, by omega, hj, fun k g1 g2 => h2.ltl hC.trans g1 (show k ≤ h by omega) (by omega) hm, hhi, rfl, rfl⟩ (by omega) (by repeat (first | exact sub_nil | refine sub_cons rfl ?_)) (List.Sublist.refl _)
  · obtain rfl : i = j := by omega
    repeat' (first | refine aw_seq ?_ | refine zz ?_ | refine zon fun _ => ?_ | refine zoa fun vr lr hr => ?_ | refine zoS (fun _ => ?_) (fun _ => ?_) | refine zqS (fun _ => ?_) (fun _ => ?_) | refine zwS (fun _ => ?_) (fun _ => ?_))
    refine aw_for (t0 := [(0, SV g n), (10, I i), (13, I a)]) (fun q t H => ∃ k : Nat, q = i - k ∧ a ≤ k ∧ k + 1 ≤ i ∧ t = [(0, SV g n), (10, I i), (13, I k)] ∧ H = RO f g n (rot d a (a + 1) (k + 1)) :: R)
      ⟨a, rfl, by omega, by omega, rfl, by rw [up_none]⟩ (by repeat (first | exact sub_nil | refine sub_cons rfl ?_)) ?_
    rintro q t H ⟨k, rfl, hak, hki, rfl, rfl⟩
    by_cases hk : k + 1 < i
    · have s1 : sl (0 + ((k : Int)).toNat * 8) 8 (rowL f n (rot d a (a + 1) (k + 1))) = some (f (d a)) := by
        rw [rowL_sl hC.len (by omega) (i := k) (by omega) rfl, rot_hi (by omega) (by omega), show k - (k + 1 - (a + 1)) = a by omega]
      have s2 : sl (0 + ((k : Int) + 1).toNat * 8) 8 (rowL f n (rot d a (a + 1) (k + 1))) = some (f (d (k + 1))) := by
        rw [rowL_sl hC.len (by omega) (i := k + 1) (by omega) (by omega), rot_out (by omega)]
      have hsw := up_one (d := d) hak
      rw [← upd_swp, rot_out (k := k + 1) (by omega), rot_hi (k := k) (by omega) (by omega), show k - (k + 1 - (a + 1)) = a by omega] at hsw
      repeat' (first | (apply ao_nilh; exact hsub_a) | apply ao_nil | apply aq_nil | apply ah_end | ((first | apply ao_val | apply aq_val | (apply ah_take; (exact rfl))); exact wants_a; exact ov_a; (exact rfl)) | ((first | apply ao_skip | apply aq_skip | (apply ah_skip; (exact rfl))); exact nots_a; (exact rfl)) | (refine ao_is ?_; first | (apply ao_new; exact wants_a; exact on_a; (exact rfl); intro _) | (apply ao_store; exact wants_a; exact ow_a; exact upd_a) | (apply ao_valw; exact wants_a; exact ox_a; (exact rfl); exact upd_a) | (apply ao_skip0; exact nots_a) | (apply ao_append; exact wants_a; (exact rfl); assumption; (exact rfl); exact cut_a; exact has_a; (exact rfl); (exact rfl); omega; omega; omega; (exact rfl); intro vr lr hr)) | ((refine ao_is ?_; apply ao_store; exact wants_a; (apply ow_storeR hC.len hC.flat (i := k); (exact rfl); omega; (exact rfl); exact has_a; omega); exact upd_a)) | ((refine ao_is ?_; apply ao_store; exact wants_a; (apply ow_storeR hC.len hC.flat (i := k + 1); (exact rfl); omega; (exact rfl); exact has_a; omega); exact upd_a)) | (apply ah_one; (exact rfl)) | (apply ah_two; (exact rfl); (exact rfl)) | (apply ah_three; (exact rfl); (exact rfl); (exact rfl)) | (refine aw_is ?_; first | (apply aw_held (id := 11) (pl := (.t 0 (.t 1 (.t 2 (.t 3 (.t 4 (.t 5 (.t 6 (.t 7 (.t 8 (.t 10 (.t 11 (.t 12 (.w 9 (.o 13 (.t 14 (.o 15 (.t 16 (.o 17 .e))))) 13 (.o 9 (.t 14 (.o 15 (.t 16 (.o 17 .e))))))))))))))))))); (kernel_rfl); (kernel_rfl); (kernel_rfl); (solve | (apply hs_skip; exact List.Sublist.refl _))) | refine aw_seq ?_ | refine aw_block ?_ | refine aw_region ?_ | refine aw_skip ?_ | refine aw_exit ?_ | refine aw_ret ?_ | refine aw_label ?_ | refine aw_scope ?_ | refine aw_cond_t rfl (by with_reducible rfl) ?_ | refine aw_cond_f rfl (by with_reducible rfl) ?_ | refine aw_draw (by kernel_rfl) (by kernel_rfl) ?_) | (first | (refine ah_is ?_; (fail_if_success first | refine ah_glit (b := true) rfl rfl rfl (by with_reducible rfl) ?_ | refine ah_glit (b := false) rfl rfl rfl (by with_reducible rfl) ?_); apply ah_gt; (exact rfl); (exact rfl); (exact rfl); exact t_a) | ((refine ao_is ?_; (fail_if_success first | refine ao_glit (b := true) rfl rfl (by with_reducible rfl) ?_ | refine ao_glit (b := false) rfl rfl (by with_reducible rfl) ?_)); apply ao_gt; (exact rfl); (exact rfl); exact t_a) | ((refine aq_is ?_; (fail_if_success first | refine aq_glit (b := true) rfl rfl (by with_reducible rfl) ?_ | refine aq_glit (b := false) rfl rfl (by with_reducible rfl) ?_)); apply aq_gt; (exact rfl); (exact rfl); exact t_a) | (apply aw_ct; (exact rfl); exact t_a)) | (first | (refine ah_is ?_; (fail_if_success first | refine ah_glit (b := true) rfl rfl rfl (by with_reducible rfl) ?_ | refine ah_glit (b := false) rfl rfl rfl (by with_reducible rfl) ?_); apply ah_gf; (exact rfl); (exact rfl); (exact rfl); exact f_a) | ((refine ao_is ?_; (fail_if_success first | refine ao_glit (b := true) rfl rfl (by with_reducible rfl) ?_ | refine ao_glit (b := false) rfl rfl (by with_reducible rfl) ?_)); apply ao_gf; (exact rfl); (exact rfl); exact f_a) | ((refine aq_is ?_; (fail_if_success first | refine aq_glit (b := true) rfl rfl (by with_reducible rfl) ?_ | refine aq_glit (b := false) rfl rfl (by with_reducible rfl) ?_)); apply aq_gf; (exact rfl); (exact rfl); exact f_a) | (apply aw_cf; (exact rfl); exact f_a)) | refine at_normal ?_ | refine at_exit ?_ | refine at_ret ?_ | refine ib_normal ?_ | refine ib_exit ?_ | refine ib_other ?_ | refine ib_ret ?_ | refine lq_exit ?_ | refine lq_ret ?_ | refine ci_ret ?_ | refine ci_exit ?_ | refine r1_ret rfl ?_ | refine r1_normal rfl ?_ | refine r2_ret rfl rfl ?_ | refine r2_normal rfl rfl ?_ | refine r3_ret rfl rfl rfl ?_ | refine r3_normal rfl rfl rfl ?_ | refine ng_normal ?_ | refine ng_exit ?_ | refine ng_ret ?_ | (apply rt_ret; (exact rfl); (exact rfl); (exact rfl); exact has_a; exact has_a; (exact rfl); (exact rfl)) | (apply rc1_ret; (exact rfl); exact has_a; (exact rfl)) | (apply rc2_ret; (exact rfl); exact has_a; (exact rfl); (exact rfl)) | (refine ao_is ?_; (fail_if_success first | refine ao_glit (b := true) rfl rfl (by with_reducible rfl) ?_ | refine ao_glit (b := false) rfl rfl (by with_reducible rfl) ?_); refine ao_gbool rfl rfl (fun _ => ?_) (fun _ => ?_)) | (refine aq_is ?_; (fail_if_success first | refine aq_glit (b := true) rfl rfl (by with_reducible rfl) ?_ | refine aq_glit (b := false) rfl rfl (by with_reducible rfl) ?_); refine aq_gbool rfl rfl (fun _ => ?_) (fun _ => ?_)) | (refine aw_is ?_; refine aw_cond rfl (fun _ => ?_) (fun _ => ?_)))
      all_goals
        rw [hsw, show ((k : Int) + 1) = ((k + 1 : Nat) : Int) by omega]
        exact lq_normal' ⟨k + 1, rfl, by omega, by omega, rfl, rfl⟩ (by omega) (by repeat (first | exact sub_nil | refine sub_cons rfl ?_)) (List.Sublist.refl _)
    · repeat' (first | refine aw_seq ?_ | refine zz ?_ | refine zon fun _ => ?_ | refine zoa fun vr lr hr => ?_ | refine zoS (fun _ => ?_) (fun _ => ?_) | refine zqS (fun _ => ?_) (fun _ => ?_) | refine zwS (fun _ => ?_) (fun _ => ?_))
      obtain rfl : i = k + 1 := by omega
      exact ⟨_, List.Sublist.refl _, _, (rot_mv (by omega) (by omega)).mono (Nat.le_refl _) hj, h2.up (by omega) hj hlo hhi, rfl⟩
set_option maxHeartbeats 16000000 in
theorem sym_right {c : FuncId} [FnB Tryz.prog c] {lt : α → α → Prop} {x : α → Nat} {cmp : α → α → Int} (hC : Cmp f c lt x cmp) {B mm : Nat} {w0 : World} (g n a m : Nat) (d : Nat → α) (ham : a + 1 < m) (hb : m + 1 ≤ n) (hn : n ≤ 1000000)
    (h1 : Ord lt d a m) (hx : Came x d a m (m + 1)) (R : Hp) :
    CallsH Tryz.prog ⟨B, w0, mm⟩ 158 [SV g n, I a, I m, I (m + 1 : Nat), FV c] ([RO f g n d] ++ R) (SortedTo lt f g n a (m + 1) d R) := by
  refine callsH0 (K := fun H' => ∃ e, Mv a (m + 1) d e ∧ Ord lt e a (m + 1) ∧ H' = RO f g n e :: R) Tryz.func158 rfl rfl rfl rfl ?_
  repeat' (first | refine aw_seq ?_ | refine zz ?_ | refine zon fun _ => ?_ | refine zoa fun vr lr hr => ?_ | refine zoS (fun _ => ?_) (fun _ => ?_) | refine zqS (fun _ => ?_) (fun _ => ?_) | refine zwS (fun _ => ?_) (fun _ => ?_))
  refine aw_for (t0 := [(0, SV g n), (2, I m), (4, FV c), (14, I a), (15, I m)]) (fun q t H => ∃ i j : Nat, q = j - i ∧ a ≤ i ∧ i ≤ j ∧ j ≤ m ∧ (∀ k, a ≤ k → k < i → lt (d k) (d m)) ∧ (∀ k, j ≤ k → k < m → lt (d m) (d k)) ∧ t = [(0, SV g n), (2, I m), (4, FV c), (14, I i), (15, I j)] ∧ H = RO f g n d :: R)
    ⟨a, m, rfl, by omega, by omega, by omega, fun k g1 g2 => by omega, fun k g1 g2 => by omega, rfl, rfl⟩ (by repeat (first | exact sub_nil | refine sub_cons rfl ?_)) ?_
  rintro q t H ⟨i, j, rfl, hi, hij, hj, hlo, hhi, rfl, rfl⟩
  by_cases hlt : i < j
  · obtain ⟨h, hh⟩ : ∃ h : Nat, h = (i + j) / 2 := ⟨_, rfl⟩
    have s1 := rowL_sl (f := f) (n := n) hC.len (by omega) (d := d) (i := h) (by omega) (z := (h : Int)) rfl
    have s2 := rowL_sl (f := f) (n := n) hC.len (by omega) (d := d) (i := m) (by omega) (z := (m : Int)) rfl
    have hcl := fun w => hC.call (d m) (d h) w
    have hca := hx h m (by omega) (by omega) (by omega) (by omega)
    cases hc : decide (cmp (d m) (d h) < 0)
    · have hm := hC.more _ _ hca hc
      have hc2 : (!decide (cmp (d m) (d h) < 0)) = true := by rw [hc]; rfl
      repeat' (first | refine aw_seq ?_ | ((first | apply ao_val | apply aq_val); exact wants_a; (first | exact ov_shrR 1 (h : Int) rfl rfl rfl (by decide) (by omega) | exact ov_a); (exact rfl)) | refine zy ?_ | refine zon fun _ => ?_ | refine zoa fun vr lr hr => ?_ | ((first | apply ao_call | apply aq_call); exact wants_a; (first | exact oc_func rfl | exact oc_clos rfl rfl | exact oc_bnd rfl rfl); (exact rfl); (first | exact fun w hw => hcl w)) | refine zoS (fun _ => ?_) (fun _ => ?_) | refine zqS (fun _ => ?_) (fun _ => ?_) | refine zwS (fun _ => ?_) (fun _ => ?_))
      rw [show ((h : Int) + 1) = ((h + 1 : Nat) : Int) by omega]
      exact lq_normal' ⟨h + 1, j, rfl, by omega, by omega, hj, fun k g1 g2 => h1.ltl hC.trans g1 (show k ≤ h by omega) (by omega) hm, hhi, rfl, rfl⟩ (by omega) (by repeat (first | exact sub_nil | refine sub_cons rfl ?_)) (List.Sublist.refl _)
    · have hm := hC.less _ _ hca hc
      have hc2 : (!decide (cmp (d m) (d h) < 0)) = false := by rw [hc]; rfl
      repeat' (first | refine aw_seq ?_ | ((first | apply ao_val | apply aq_val); exact wants_a; (first | exact ov_shrR 1 (h : Int) rfl rfl rfl (by decide) (by omega) | exact ov_a); (exact rfl)) | refine zy ?_ | refine zon fun _ => ?_ | refine zoa fun vr lr hr => ?_ | ((first | apply ao_call | apply aq_call); exact wants_a; (first | exact oc_func rfl | exact oc_clos rfl rfl | exact oc_bnd rfl rfl); (exact rfl); (first | exact fun w hw => hcl w)) | refine zoS (fun _ => ?_) (fun _ => ?_) | refine zqS (fun _ => ?_) (fun _ => ?_) | refine zwS (fun _ => ?_) (fun _ => ?_))
      exact lq_normal' ⟨i, h, rfl, hi, by omega, by omega, hlo, fun k g1 g2 => h1.ltr hC.trans (by omega) g1 g2 hm, rfl, rfl⟩ (by omega) (by repeat (first | exact sub_nil | refine sub_cons rfl ?_)) (List.Sublist.refl _)
  · obtain rfl : i = j := by omega
    repeat' (first | refine aw_seq ?_ | refine zz ?_ | refine zon fun _ => ?_ | refine zoa fun vr lr hr => ?_ | refine zoS (fun _ => ?_) (fun _ => ?_) | refine zqS (fun _ => ?_) (fun _ => ?_) | refine zwS (fun _ => ?_) (fun _ => ?_))
    refine aw_for (t0 := [(0, SV g n), (14, I i), (17, I m)]) (fun q t H => ∃ k : Nat, q = k + 1 ∧ i ≤ k ∧ k ≤ m ∧ t = [(0, SV g n), (14, I i), (17, I k)] ∧ H = RO f g n (rot d k m (m + 1)) :: R)
      ⟨m, rfl, by omega, by omega, rfl, by rw [down_none]⟩ (by repeat (first | exact sub_nil | refine sub_cons rfl ?_)) ?_
    rintro q t H ⟨k, rfl, hik, hkm, rfl, rfl⟩
    by_cases hk : i < k
    · have s1 : sl (0 + ((k : Int)).toNat * 8) 8 (rowL f n (rot d k m (m + 1))) = some (f (d m)) := by
        rw [rowL_sl hC.len (by omega) (i := k) (by omega) rfl, rot_lo (by omega) (by omega) hkm (by omega), show k + (m - k) = m by omega]
      have s2 : sl (0 + ((k : Int) - 1).toNat * 8) 8 (rowL f n (rot d k m (m + 1))) = some (f (d (k - 1))) := by
        rw [rowL_sl hC.len (by omega) (i := k - 1) (by omega) (by omega), rot_out (by omega)]
      have hsw := down_one (d := d) (i := m) (j := k - 1) (by omega)
      rw [show k - 1 + 1 = k by omega, ← upd_swp, rot_out (k := k - 1) (by omega), rot_lo (k := k) (by omega) (by omega) hkm (by omega), show k + (m - k) = m by omega] at hsw
      repeat' (first | (apply ao_nilh; exact hsub_a) | apply ao_nil | apply aq_nil | apply ah_end | ((first | apply ao_val | apply aq_val | (apply ah_take; (exact rfl))); exact wants_a; exact ov_a; (exact rfl)) | ((first | apply ao_skip | apply aq_skip | (apply ah_skip; (exact rfl))); exact nots_a; (exact rfl)) | (refine ao_is ?_; first | (apply ao_new; exact wants_a; exact on_a; (exact rfl); intro _) | (apply ao_store; exact wants_a; exact ow_a; exact upd_a) | (apply ao_valw; exact wants_a; exact ox_a; (exact rfl); exact upd_a) | (apply ao_skip0; exact nots_a) | (apply ao_append; exact wants_a; (exact rfl); assumption; (exact rfl); exact cut_a; exact has_a; (exact rfl); (exact rfl); omega; omega; omega; (exact rfl); intro vr lr hr)) | ((refine ao_is ?_; apply ao_store; exact wants_a; (apply ow_storeR hC.len hC.flat (i := k); (exact rfl); omega; (exact rfl); exact has_a; omega); exact upd_a)) | ((refine ao_is ?_; apply ao_store; exact wants_a; (apply ow_storeR hC.len hC.flat (i := k - 1); (exact rfl); omega; (exact rfl); exact has_a; omega); exact upd_a)) | (apply ah_one; (exact rfl)) | (apply ah_two; (exact rfl); (exact rfl)) | (apply ah_three; (exact rfl); (exact rfl); (exact rfl)) | (refine aw_is ?_; first | (apply aw_held (id := 23) (pl := (.t 0 (.t 1 (.t 2 (.t 3 (.t 4 (.t 5 (.t 6 (.t 7 (.t 8 (.t 10 (.t 11 (.t 12 (.w 9 (.o 13 (.t 14 (.o 15 (.t 16 (.o 17 .e))))) 13 (.o 9 (.t 14 (.o 15 (.t 16 (.o 17 .e))))))))))))))))))); (kernel_rfl); (kernel_rfl); (kernel_rfl); (solve | (apply hs_skip; exact List.Sublist.refl _))) | refine aw_seq ?_ | refine aw_block ?_ | refine aw_region ?_ | refine aw_skip ?_ | refine aw_exit ?_ | refine aw_ret ?_ | refine aw_label ?_ | refine aw_scope ?_ | refine aw_cond_t rfl (by with_reducible rfl) ?_ | refine aw_cond_f rfl (by with_reducible rfl) ?_ | refine aw_draw (by kernel_rfl) (by kernel_rfl) ?_) | (first | (refine ah_is ?_; (fail_if_success first | refine ah_glit (b := true) rfl rfl rfl (by with_reducible rfl) ?_ | refine ah_glit (b := false) rfl rfl rfl (by with_reducible rfl) ?_); apply ah_gt; (exact rfl); (exact rfl); (exact rfl); exact t_a) | ((refine ao_is ?_; (fail_if_success first | refine ao_glit (b := true) rfl rfl (by with_reducible rfl) ?_ | refine ao_glit (b := false) rfl rfl (by with_reducible rfl) ?_)); apply ao_gt; (exact rfl); (exact rfl); exact t_a) | ((refine aq_is ?_; (fail_if_success first | refine aq_glit (b := true) rfl rfl (by with_reducible rfl) ?_ | refine aq_glit (b := false) rfl rfl (by with_reducible rfl) ?_)); apply aq_gt; (exact rfl); (exact rfl); exact t_a) | (apply aw_ct; (exact rfl); exact t_a)) | (first | (refine ah_is ?_; (fail_if_success first | refine ah_glit (b := true) rfl rfl rfl (by with_reducible rfl) ?_ | refine ah_glit (b := false) rfl rfl rfl (by with_reducible rfl) ?_); apply ah_gf; (exact rfl); (exact rfl); (exact rfl); exact f_a) | ((refine ao_is ?_; (fail_if_success first | refine ao_glit (b := true) rfl rfl (by with_reducible rfl) ?_ | refine ao_glit (b := false) rfl rfl (by with_reducible rfl) ?_)); apply ao_gf; (exact rfl); (exact rfl); exact f_a) | ((refine aq_is ?_; (fail_if_success first | refine aq_glit (b := true) rfl rfl (by with_reducible rfl) ?_ | refine aq_glit (b := false) rfl rfl (by with_reducible rfl) ?_)); apply aq_gf; (exact rfl); (exact rfl); exact f_a) | (apply aw_cf; (exact rfl); exact f_a)) | refine at_normal ?_ | refine at_exit ?_ | refine at_ret ?_ | refine ib_normal ?_ | refine ib_exit ?_ | refine ib_other ?_ | refine ib_ret ?_ | refine lq_exit ?_ | refine lq_ret ?_ | refine ci_ret ?_ | refine ci_exit ?_ | refine r1_ret rfl ?_ | refine r1_normal rfl ?_ | refine r2_ret rfl rfl ?_ | refine r2_normal rfl rfl ?_ | refine r3_ret rfl rfl rfl ?_ | refine r3_normal rfl rfl rfl ?_ | refine ng_normal ?_ | refine ng_exit ?_ | refine ng_ret ?_ | (apply rt_ret; (exact rfl); (exact rfl); (exact rfl); exact has_a; exact has_a; (exact rfl); (exact rfl)) | (apply rc1_ret; (exact rfl); exact has_a; (exact rfl)) | (apply rc2_ret; (exact rfl); exact has_a; (exact rfl); (exact rfl)) | (refine ao_is ?_; (fail_if_success first | refine ao_glit (b := true) rfl rfl (by with_reducible rfl) ?_ | refine ao_glit (b := false) rfl rfl (by with_reducible rfl) ?_); refine ao_gbool rfl rfl (fun _ => ?_) (fun _ => ?_)) | (refine aq_is ?_; (fail_if_success first | refine aq_glit (b := true) rfl rfl (by with_reducible rfl) ?_ | refine aq_glit (b := false) rfl rfl (by with_reducible rfl) ?_); refine aq_gbool rfl rfl (fun _ => ?_) (fun _ => ?_)) | (refine aw_is ?_; refine aw_cond rfl (fun _ => ?_) (fun _ => ?_)))
      all_goals
        rw [hsw, show ((k : Int) - 1) = ((k - 1 : Nat) : Int) by omega]
        exact lq_normal' ⟨k - 1, rfl, by omega, by omega, rfl, rfl⟩ (by omega) (by repeat (first | exact sub_nil | refine sub_cons rfl ?_)) (List.Sublist.refl _)
    · repeat' (first | refine aw_seq ?_ | refine zz ?_ | refine zon fun _ => ?_ | refine zoa fun vr lr hr => ?_ | refine zoS (fun _ => ?_) (fun _ => ?_) | refine zqS (fun _ => ?_) (fun _ => ?_) | refine zwS (fun _ => ?_) (fun _ => ?_))
      obtain rfl : i = k := by omega
      exact ⟨_, List.Sublist.refl _, _, (rot_mv hkm (by omega)).mono hi (Nat.le_refl _), h1.down hi hkm hlo hhi, rfl⟩
end Srw
end Go.Proofs.YtdakeicfhbggeaaGreat
/- Sro: Contracts of the library's stable sort over objects: the merge, whole; conditions: rows of at most 1,000,000 elements. -/
namespace Go.Proofs.YtdakeicfhbggeaaGreat
namespace Srw
open Go Go.RowKit Sx Srt
attribute [local irreducible] Go.Calls
variable {α : Type} {f : α → List Value}
set_option maxHeartbeats 16000000 in
theorem sym_ok {c : FuncId} [FnB Tryz.prog c] {lt : α → α → Prop} {x : α → Nat} {cmp : α → α → Int} (hC : Cmp f c lt x cmp) {B : Nat} {w0 : World} (g n : Nat) (hn : n ≤ 1000000) : ∀ (N a m b : Nat) (zm zb : Int) (d : Nat → α), zm = m → zb = b → b - a ≤ N → a < m → m < b → b ≤ n →
    Ord lt d a m → Ord lt d m b → Came x d a m b → ∀ (mm : Nat) (R : Hp),
    CallsH Tryz.prog ⟨B, w0, mm⟩ 158 [SV g n, I a, I zm, I zb, FV c] ([RO f g n d] ++ R) (SortedTo lt f g n a b d R)
  | 0, a, m, b, _, _, _, _, _, h0, h1, h2, _, _, _, _ => by omega
  | N + 1, a, m, b, _, _, d, rfl, rfl, h0, ham, hmb, hb, h1, h2, hx => fun mm R => by
    by_cases hA : m = a + 1
    · subst hA; exact sym_left hC g n a b d hmb hb hn h2 hx R
    by_cases hB : b = m + 1
    · subst hB; exact sym_right hC g n a m d (by omega) hb hn h1 hx R
    obtain ⟨mid, hmid⟩ : ∃ k : Nat, k = (a + b) / 2 := ⟨_, rfl⟩
    refine callsH0 (K := fun H' => ∃ e, Mv a b d e ∧ Ord lt e a b ∧ H' = RO f g n e :: R) Tryz.func158 rfl rfl rfl rfl ?_
    repeat' (first | refine aw_cutI_at (id := 32) (fun t H => ∃ lo hi : Nat, ((mid < m ∧ lo = mid + m - b ∧ hi = mid) ∨ (m ≤ mid ∧ lo = a ∧ hi = m)) ∧ t = [(0, SV g n), (1, I a), (2, I m), (3, I b), (4, FV c), (18, I mid), (19, I ((mid : Int) + (m : Int))), (20, I lo), (21, I hi)] ∧ H = RO f g n d :: R) ?_ ?_ | refine aw_cutI_at2 (id := 32) (fun t H => ∃ lo hi : Nat, ((mid < m ∧ lo = mid + m - b ∧ hi = mid) ∨ (m ≤ mid ∧ lo = a ∧ hi = m)) ∧ t = [(0, SV g n), (1, I a), (2, I m), (3, I b), (4, FV c), (18, I mid), (19, I ((mid : Int) + (m : Int))), (20, I lo), (21, I hi)] ∧ H = RO f g n d :: R) ?_ ?_ | refine aw_seq ?_ | ((first | apply ao_val | apply aq_val); exact wants_a; (first | exact ov_shrR 1 (mid : Int) rfl rfl rfl (by decide) (by omega) | exact ov_a); (exact rfl)) | refine zy ?_ | refine zon fun _ => ?_ | refine zoa fun vr lr hr => ?_)
    · by_cases hm : mid < m
      · repeat' (first | refine aw_seq ?_ | refine zz ?_ | refine zon fun _ => ?_ | refine zoa fun vr lr hr => ?_ | refine zoS (fun _ => ?_) (fun _ => ?_) | refine zqS (fun _ => ?_) (fun _ => ?_) | refine zwS (fun _ => ?_) (fun _ => ?_))
        exact ci_normal ⟨mid + m - b, mid, .inl ⟨hm, rfl, rfl⟩, rfl, rfl⟩ (by rw [show ((mid + m - b : Nat) : Int) = (mid : Int) + (m : Int) - (b : Int) by omega]; exact (by repeat (first | exact sub_nil | refine sub_cons rfl ?_))) (List.Sublist.refl _)
      · repeat' (first | refine aw_seq ?_ | refine zz ?_ | refine zon fun _ => ?_ | refine zoa fun vr lr hr => ?_ | refine zoS (fun _ => ?_) (fun _ => ?_) | refine zqS (fun _ => ?_) (fun _ => ?_) | refine zwS (fun _ => ?_) (fun _ => ?_))
        exact ci_normal ⟨a, m, .inr ⟨by omega, rfl, rfl⟩, rfl, rfl⟩ (by repeat (first | exact sub_nil | refine sub_cons rfl ?_)) (List.Sublist.refl _)
    rintro t H ⟨lo, hi, hor, rfl, rfl⟩
    have hlo : a ≤ lo ∧ lo ≤ hi ∧ hi ≤ mid ∧ hi ≤ m := by omega
    repeat' (first | refine aw_seq ?_ | refine zz ?_ | refine zon fun _ => ?_ | refine zoa fun vr lr hr => ?_ | refine zoS (fun _ => ?_) (fun _ => ?_) | refine zqS (fun _ => ?_) (fun _ => ?_) | refine zwS (fun _ => ?_) (fun _ => ?_))
    refine aw_for (t0 := [(0, SV g n), (1, I a), (2, I m), (3, I b), (4, FV c), (18, I mid), (19, I ((mid : Int) + (m : Int))), (20, I lo), (21, I hi), (22, I ((mid : Int) + (m : Int) - 1))])
      (fun q t H => ∃ s r : Nat, q = r - s ∧ lo ≤ s ∧ s ≤ r ∧ r ≤ hi ∧ (∀ k, lo ≤ k → k < s → lt (d k) (d (mid + m - 1 - k))) ∧ (∀ k, r ≤ k → k < hi → lt (d (mid + m - 1 - k)) (d k)) ∧ t = [(0, SV g n), (1, I a), (2, I m), (3, I b), (4, FV c), (18, I mid), (19, I ((mid : Int) + (m : Int))), (20, I s), (21, I r), (22, I ((mid : Int) + (m : Int) - 1))] ∧ H = RO f g n d :: R)
      ⟨lo, hi, rfl, by omega, by omega, by omega, fun k g1 g2 => by omega, fun k g1 g2 => by omega, rfl, rfl⟩ (by repeat (first | exact sub_nil | refine sub_cons rfl ?_)) ?_
    rintro q t H ⟨s, r, rfl, hls, hsr, hrh, hall1, hall2, rfl, rfl⟩
    by_cases hlt : s < r
    · obtain ⟨h, hh⟩ : ∃ h : Nat, h = (s + r) / 2 := ⟨_, rfl⟩
      have s1 := rowL_sl (f := f) (n := n) hC.len (by omega) (d := d) (i := h) (by omega) (z := (h : Int)) rfl
      have s2 := rowL_sl (f := f) (n := n) hC.len (by omega) (d := d) (i := mid + m - 1 - h) (by omega) (z := (mid : Int) + (m : Int) - 1 - (h : Int)) (by omega)
      have hcl := fun w => hC.call (d (mid + m - 1 - h)) (d h) w
      have hca := hx h (mid + m - 1 - h) (by omega) (by omega) (by omega) (by omega)
      cases hc : decide (cmp (d (mid + m - 1 - h)) (d h) < 0)
      · have hm := hC.more _ _ hca hc
        have hc2 : (!decide (cmp (d (mid + m - 1 - h)) (d h) < 0)) = true := by rw [hc]; rfl
        repeat' (first | refine aw_seq ?_ | ((first | apply ao_val | apply aq_val); exact wants_a; (first | exact ov_shrR 1 (h : Int) rfl rfl rfl (by decide) (by omega) | exact ov_a); (exact rfl)) | refine zy ?_ | refine zon fun _ => ?_ | refine zoa fun vr lr hr => ?_ | ((first | apply ao_call | apply aq_call); exact wants_a; (first | exact oc_func rfl | exact oc_clos rfl rfl | exact oc_bnd rfl rfl); (exact rfl); (first | exact fun w hw => hcl w)) | refine zoS (fun _ => ?_) (fun _ => ?_) | refine zqS (fun _ => ?_) (fun _ => ?_) | refine zwS (fun _ => ?_) (fun _ => ?_))
        rw [show ((h : Int) + 1) = ((h + 1 : Nat) : Int) by omega]
        exact lq_normal' ⟨h + 1, r, rfl, by omega, by omega, hrh, fun k g1 g2 => h1.ltl hC.trans (by omega) (show k ≤ h by omega) (by omega) (h2.ltr hC.trans (i := mid + m - 1 - h) (by omega) (by omega) (by omega) hm), hall2, rfl, rfl⟩ (by omega) (by repeat (first | exact sub_nil | refine sub_cons rfl ?_)) (List.Sublist.refl _)
      · have hm := hC.less _ _ hca hc
        have hc2 : (!decide (cmp (d (mid + m - 1 - h)) (d h) < 0)) = false := by rw [hc]; rfl
        repeat' (first | refine aw_seq ?_ | ((first | apply ao_val | apply aq_val); exact wants_a; (first | exact ov_shrR 1 (h : Int) rfl rfl rfl (by decide) (by omega) | exact ov_a); (exact rfl)) | refine zy ?_ | refine zon fun _ => ?_ | refine zoa fun vr lr hr => ?_ | ((first | apply ao_call | apply aq_call); exact wants_a; (first | exact oc_func rfl | exact oc_clos rfl rfl | exact oc_bnd rfl rfl); (exact rfl); (first | exact fun w hw => hcl w)) | refine zoS (fun _ => ?_) (fun _ => ?_) | refine zqS (fun _ => ?_) (fun _ => ?_) | refine zwS (fun _ => ?_) (fun _ => ?_))
        exact lq_normal' ⟨s, h, rfl, hls, by omega, by omega, hall1, fun k g1 g2 => h2.ltl hC.trans (by omega) (show mid + m - 1 - k ≤ mid + m - 1 - h by omega) (by omega) (h1.ltr hC.trans (by omega) g1 (by omega) hm), rfl, rfl⟩ (by omega) (by repeat (first | exact sub_nil | refine sub_cons rfl ?_)) (List.Sublist.refl _)
    · obtain rfl : s = r := by omega
      obtain ⟨⟨o1, o2, o3⟩, ⟨o4, o5, o6⟩, o7⟩ := sym_step (t := mid + m - s) (mid := mid) hC.trans h1 h2 hx (show a ≤ s by omega) (by omega) (by omega) (by omega) (by omega)
        (by
          by_cases e1 : s = lo
          · omega
          · refine .inr (.inr ?_)
            have := hall1 (s - 1) (by omega) (by omega)
            rwa [show mid + m - 1 - (s - 1) = mid + m - s by omega] at this)
        (by
          by_cases e1 : s = hi
          · omega
          · refine .inr (.inr ?_)
            have := hall2 s (by omega) (by omega)
            rwa [show mid + m - 1 - s = mid + m - s - 1 by omega] at this)
      have hmv1 : Mv a b d (rot d s m (mid + m - s)) := (rot_mv (by omega) (by omega)).mono (by omega) (by omega)
      generalize hd1 : rot d s m (mid + m - s) = d1 at o1 o2 o3 o4 o5 o6 o7 hmv1
      repeat' (first | refine aw_cutI_at (id := 41) (fun t H => t = [(0, SV g n), (1, I a), (3, I b), (4, FV c), (18, I mid), (20, I s), (24, I ((mid : Int) + (m : Int) - (s : Int)))] ∧ H = RO f g n d1 :: R) ?_ ?_ | refine aw_cutI_at2 (id := 41) (fun t H => t = [(0, SV g n), (1, I a), (3, I b), (4, FV c), (18, I mid), (20, I s), (24, I ((mid : Int) + (m : Int) - (s : Int)))] ∧ H = RO f g n d1 :: R) ?_ ?_ | refine aw_seq ?_ | refine zz ?_ | refine zon fun _ => ?_ | refine zoa fun vr lr hr => ?_)
      · by_cases q1 : s < m
        · by_cases q2 : m < mid + m - s
          · repeat' (first | refine aw_seq ?_ | refine zz ?_ | refine zon fun _ => ?_ | refine zoa fun vr lr hr => ?_ | (apply ao_callF; exact wants_a; (first | exact oc_func rfl | exact oc_clos rfl rfl | exact oc_bnd rfl rfl); (exact rfl); (first | exact rot_ok hC.len hC.flat c g n s m (mid + m - s) _ (by omega) d q1 q2 (by omega) hn); exact cuts_a; intro _ hH; simp only [List.cons_append, List.nil_append] at hH; subst hH) | refine zoS (fun _ => ?_) (fun _ => ?_) | refine zqS (fun _ => ?_) (fun _ => ?_) | refine zwS (fun _ => ?_) (fun _ => ?_))
            rw [hd1]
            exact ci_normal ⟨rfl, rfl⟩ (by repeat (first | exact sub_nil | refine sub_cons rfl ?_)) (List.Sublist.refl _)
          · repeat' (first | refine aw_seq ?_ | refine zz ?_ | refine zon fun _ => ?_ | refine zoa fun vr lr hr => ?_ | refine zoS (fun _ => ?_) (fun _ => ?_) | refine zqS (fun _ => ?_) (fun _ => ?_) | refine zwS (fun _ => ?_) (fun _ => ?_))
            rw [show mid + m - s = m by omega, rot_none_r] at hd1
            subst hd1
            exact ci_normal ⟨rfl, rfl⟩ (by repeat (first | exact sub_nil | refine sub_cons rfl ?_)) (List.Sublist.refl _)
        · repeat' (first | refine aw_seq ?_ | refine zz ?_ | refine zon fun _ => ?_ | refine zoa fun vr lr hr => ?_ | refine zoS (fun _ => ?_) (fun _ => ?_) | refine zqS (fun _ => ?_) (fun _ => ?_) | refine zwS (fun _ => ?_) (fun _ => ?_))
          rw [show s = m by omega, rot_none_l] at hd1
          subst hd1
          exact ci_normal ⟨rfl, rfl⟩ (by repeat (first | exact sub_nil | refine sub_cons rfl ?_)) (List.Sublist.refl _)
      rintro t H ⟨rfl, rfl⟩
      repeat' (first | refine aw_cutI_at (id := 43) (fun t H => ∃ d2, Mv a mid d1 d2 ∧ Ord lt d2 a mid ∧ t = [(0, SV g n), (3, I b), (4, FV c), (18, I mid), (24, I ((mid : Int) + (m : Int) - (s : Int)))] ∧ H = RO f g n d2 :: R) ?_ ?_ | refine aw_cutI_at2 (id := 43) (fun t H => ∃ d2, Mv a mid d1 d2 ∧ Ord lt d2 a mid ∧ t = [(0, SV g n), (3, I b), (4, FV c), (18, I mid), (24, I ((mid : Int) + (m : Int) - (s : Int)))] ∧ H = RO f g n d2 :: R) ?_ ?_ | refine aw_seq ?_ | refine zz ?_ | refine zon fun _ => ?_ | refine zoa fun vr lr hr => ?_)
      · by_cases q1 : a < s
        · by_cases q2 : s < mid
          · repeat' (first | refine aw_seq ?_ | refine zz ?_ | refine zon fun _ => ?_ | refine zoa fun vr lr hr => ?_ | ((apply ao_callH; exact wants_a; (exact oc_func rfl); (exact rfl); (exact Cut.here1); (exact sym_ok hC g n hn N a s mid _ _ d1 rfl rfl (by omega) q1 q2 (by omega) o1 o2 o3 _ R); rintro _ _ ⟨rfl, d2, hmv2, hord2, rfl⟩)) | refine zoS (fun _ => ?_) (fun _ => ?_) | refine zqS (fun _ => ?_) (fun _ => ?_) | refine zwS (fun _ => ?_) (fun _ => ?_))
            exact ci_normal ⟨d2, hmv2, hord2, rfl, rfl⟩ (by repeat (first | exact sub_nil | refine sub_cons rfl ?_)) (List.Sublist.refl _)
          · repeat' (first | refine aw_seq ?_ | refine zz ?_ | refine zon fun _ => ?_ | refine zoa fun vr lr hr => ?_ | refine zoS (fun _ => ?_) (fun _ => ?_) | refine zqS (fun _ => ?_) (fun _ => ?_) | refine zwS (fun _ => ?_) (fun _ => ?_))
            exact ci_normal ⟨d1, .refl, o1.sub (Nat.le_refl _) (by omega), rfl, rfl⟩ (by repeat (first | exact sub_nil | refine sub_cons rfl ?_)) (List.Sublist.refl _)
        · repeat' (first | refine aw_seq ?_ | refine zz ?_ | refine zon fun _ => ?_ | refine zoa fun vr lr hr => ?_ | refine zoS (fun _ => ?_) (fun _ => ?_) | refine zqS (fun _ => ?_) (fun _ => ?_) | refine zwS (fun _ => ?_) (fun _ => ?_))
          exact ci_normal ⟨d1, .refl, o2.sub (by omega) (Nat.le_refl _), rfl, rfl⟩ (by repeat (first | exact sub_nil | refine sub_cons rfl ?_)) (List.Sublist.refl _)
      rintro t H ⟨d2, hmv2, hord2, rfl, rfl⟩
      have fin : ∀ e, Mv mid b d2 e → Ord lt e mid b → Mv a b d e ∧ Ord lt e a b := fun e g1 g2 =>
        ⟨(hmv1.trans (hmv2.mono (Nat.le_refl _) (by omega))).trans (g1.mono (by omega) (Nat.le_refl _)), (hord2.keep g1 (.inl (Nat.le_refl _))).join g2 (across_hi (across_lo o7 hmv2) g1)⟩
      have p4 := o4.keep hmv2 (.inr (Nat.le_refl _))
      have p5 := o5.keep hmv2 (.inr (by omega))
      have p6 : Came x d2 mid (mid + m - s) b := fun i j g1 g2 g3 g4 => by rw [hmv2.out (.inr g1), hmv2.out (.inr (by omega))]; exact o6 i j g1 g2 g3 g4
      by_cases q1 : mid < mid + m - s
      · by_cases q2 : mid + m - s < b
        · repeat' (first | refine aw_seq ?_ | refine zz ?_ | refine zon fun _ => ?_ | refine zoa fun vr lr hr => ?_ | ((apply ao_callH; exact wants_a; (exact oc_func rfl); (exact rfl); (exact Cut.here1); (exact sym_ok hC g n hn N mid (mid + m - s) b _ _ d2 (by omega) rfl (by omega) q1 q2 hb p4 p5 p6 _ R); rintro _ _ ⟨rfl, d3, hmv3, hord3, rfl⟩)) | refine zoS (fun _ => ?_) (fun _ => ?_) | refine zqS (fun _ => ?_) (fun _ => ?_) | refine zwS (fun _ => ?_) (fun _ => ?_))
          obtain ⟨f1, f2⟩ := fin d3 hmv3 hord3
          exact ⟨_, List.Sublist.refl _, d3, f1, f2, rfl⟩
        · repeat' (first | refine aw_seq ?_ | refine zz ?_ | refine zon fun _ => ?_ | refine zoa fun vr lr hr => ?_ | refine zoS (fun _ => ?_) (fun _ => ?_) | refine zqS (fun _ => ?_) (fun _ => ?_) | refine zwS (fun _ => ?_) (fun _ => ?_))
          obtain ⟨f1, f2⟩ := fin d2 .refl (p4.sub (Nat.le_refl _) (by omega))
          exact ⟨_, List.Sublist.refl _, d2, f1, f2, rfl⟩
      · repeat' (first | refine aw_seq ?_ | refine zz ?_ | refine zon fun _ => ?_ | refine zoa fun vr lr hr => ?_ | refine zoS (fun _ => ?_) (fun _ => ?_) | refine zqS (fun _ => ?_) (fun _ => ?_) | refine zwS (fun _ => ?_) (fun _ => ?_))
        obtain ⟨f1, f2⟩ := fin d2 .refl (p5.sub (by omega) (Nat.le_refl _))
        exact ⟨_, List.Sublist.refl _, d2, f1, f2, rfl⟩
end Srw
end Go.Proofs.YtdakeicfhbggeaaGreat
/- Srp: Contracts of the library's stable sort over objects: by blocks, whole; conditions: rows of at most 400,000 elements. -/
namespace Go.Proofs.YtdakeicfhbggeaaGreat
namespace Srw
open Go Go.RowKit Sx Srt
attribute [local irreducible] Go.Calls
variable {α : Type} {f : α → List Value}
set_option maxHeartbeats 16000000 in
theorem stb_ok {c : FuncId} [FnB Tryz.prog c] {lt : α → α → Prop} {x : α → Nat} {cmp : α → α → Int} (hC : Cmp f c lt x cmp) {B mm : Nat} {w0 : World} (g n : Nat) (hn : n ≤ 400000) (d : Nat → α) (hx : ∀ i j, i < j → j < n → x (d i) < x (d j)) (R : Hp) :
    CallsH Tryz.prog ⟨B, w0, mm⟩ 129 [SV g n, I n, FV c] ([RO f g n d] ++ R) (SortedTo lt f g n 0 n d R) := by
  refine callsH0 (K := fun H' => ∃ e, Mv 0 n d e ∧ Ord lt e 0 n ∧ H' = RO f g n e :: R) Tryz.func129 rfl rfl rfl rfl ?_
  repeat' (first | refine aw_seq ?_ | refine zz ?_ | refine zon fun _ => ?_ | refine zoa fun vr lr hr => ?_ | refine zoS (fun _ => ?_) (fun _ => ?_) | refine zqS (fun _ => ?_) (fun _ => ?_) | refine zwS (fun _ => ?_) (fun _ => ?_))
  refine aw_for (t0 := [(0, SV g n), (1, I n), (2, FV c), (6, I 20), (7, I (0 : Nat)), (8, I (((0 : Nat) : Int) + 20))]) (fun q t H => ∃ (p : Nat) (e : Nat → α), q = n - p ∧ LayA lt x e n 20 p ∧ Mv 0 n d e ∧ t = [(0, SV g n), (1, I n), (2, FV c), (6, I 20), (7, I p), (8, I ((p : Int) + 20))] ∧ H = RO f g n e :: R)
    ⟨0, d, rfl, LayA.start hx, .refl, rfl, rfl⟩ (by repeat (first | exact sub_nil | refine sub_cons rfl ?_)) ?_
  rintro q t H ⟨p, e, rfl, hlay, hmv, rfl, rfl⟩
  have hpn := hlay.2.1
  by_cases hp : p + 20 ≤ n
  · repeat' (first | refine aw_seq ?_ | refine zz ?_ | refine zon fun _ => ?_ | refine zoa fun vr lr hr => ?_ | ((apply ao_callH; exact wants_a; (exact oc_func rfl); (exact rfl); (exact Cut.here1); (exact ins_ok hC g n p (p + 20) _ _ rfl (by omega) e (by omega) hp (by omega) (fun i j h1 h2 h3 => hlay.2.2.2.2 i j h1 h2 (by omega)) R); rintro _ _ ⟨rfl, e2, hmv2, hord2, rfl⟩)) | refine zoS (fun _ => ?_) (fun _ => ?_) | refine zqS (fun _ => ?_) (fun _ => ?_) | refine zwS (fun _ => ?_) (fun _ => ?_))
    rw [show ((p : Int) + 20) = ((p + 20 : Nat) : Int) by omega]
    exact lq_normal' ⟨p + 20, e2, rfl, hlay.step hp hmv2 hord2, hmv.trans (hmv2.mono (Nat.zero_le _) hp), rfl, rfl⟩ (by omega) (by repeat (first | exact sub_nil | refine sub_cons rfl ?_)) (List.Sublist.refl _)
  · repeat' (first | refine aw_seq ?_ | refine zz ?_ | refine zon fun _ => ?_ | refine zoa fun vr lr hr => ?_ | ((apply ao_callH; exact wants_a; (exact oc_func rfl); (exact rfl); (exact Cut.here1); (exact ins_ok hC g n p n _ _ rfl rfl e hpn (Nat.le_refl _) (by omega) (fun i j h1 h2 h3 => hlay.2.2.2.2 i j h1 h2 h3) R); rintro _ _ ⟨rfl, e2, hmv2, hord2, rfl⟩)) | refine zoS (fun _ => ?_) (fun _ => ?_) | refine zqS (fun _ => ?_) (fun _ => ?_) | refine zwS (fun _ => ?_) (fun _ => ?_))
    have hl := hlay.done (by omega) hmv2 hord2
    have hmv3 := hmv.trans (hmv2.mono (Nat.zero_le _) (Nat.le_refl _))
    clear hlay hmv hmv2 hord2 hp hpn
    refine aw_for (t0 := [(0, SV g n), (1, I n), (2, FV c), (6, I (20 : Nat))]) (fun q t H => ∃ (s : Nat) (e : Nat → α), q = n - s ∧ 0 < s ∧ s ≤ 2 * n + 20 ∧ Lay lt x e n s ∧ Mv 0 n d e ∧ t = [(0, SV g n), (1, I n), (2, FV c), (6, I s)] ∧ H = RO f g n e :: R)
      ⟨20, e2, rfl, by omega, by omega, hl, hmv3, rfl, rfl⟩ (by repeat (first | exact sub_nil | refine sub_cons rfl ?_)) ?_
    rintro q t H ⟨s, e, rfl, hs0, hs, hlay, hmv, rfl, rfl⟩
    by_cases hsn : s < n
    · repeat' (first | refine aw_seq ?_ | refine zz ?_ | refine zon fun _ => ?_ | refine zoa fun vr lr hr => ?_ | refine zoS (fun _ => ?_) (fun _ => ?_) | refine zqS (fun _ => ?_) (fun _ => ?_) | refine zwS (fun _ => ?_) (fun _ => ?_))
      rw [show (2 * (s : Int)) = ((0 : Nat) : Int) + 2 * (s : Int) by omega]
      refine aw_for (t0 := [(0, SV g n), (1, I n), (2, FV c), (6, I s), (7, I (0 : Nat)), (8, I (((0 : Nat) : Int) + 2 * (s : Int)))]) (fun q t H => ∃ (p : Nat) (e : Nat → α), q = n - p ∧ LayB lt x e n s p ∧ Mv 0 n d e ∧ t = [(0, SV g n), (1, I n), (2, FV c), (6, I s), (7, I p), (8, I ((p : Int) + 2 * (s : Int)))] ∧ H = RO f g n e :: R)
        ⟨0, e, rfl, LayB.start hlay, hmv, rfl, rfl⟩ (by repeat (first | exact sub_nil | refine sub_cons rfl ?_)) ?_
      clear hlay hmv
      rintro q t H ⟨p, e, rfl, hlay, hmv, rfl, rfl⟩
      have hpn := hlay.2.1
      by_cases hp : p + 2 * s ≤ n
      · obtain ⟨r1, r2, r3⟩ := hlay.ready (b := p + 2 * s) hp (Nat.le_refl _) (by omega)
        repeat' (first | refine aw_seq ?_ | refine zz ?_ | refine zon fun _ => ?_ | refine zoa fun vr lr hr => ?_ | ((apply ao_callH; exact wants_a; (exact oc_func rfl); (exact rfl); (exact Cut.here1); (exact sym_ok hC g n (by omega) _ p (p + s) (p + 2 * s) _ _ e (by omega) (by omega) (Nat.le_refl _) (by omega) (by omega) hp r1 r2 r3 _ R); rintro _ _ ⟨rfl, e2, hmv2, hord2, rfl⟩)) | refine zoS (fun _ => ?_) (fun _ => ?_) | refine zqS (fun _ => ?_) (fun _ => ?_) | refine zwS (fun _ => ?_) (fun _ => ?_))
        rw [show ((p : Int) + 2 * (s : Int)) = ((p + 2 * s : Nat) : Int) by omega]
        exact lq_normal' ⟨p + 2 * s, e2, rfl, hlay.step hp hmv2 hord2, hmv.trans (hmv2.mono (Nat.zero_le _) hp), rfl, rfl⟩ (by omega) (by repeat (first | exact sub_nil | refine sub_cons rfl ?_)) (List.Sublist.refl _)
      · by_cases hp2 : p + s < n
        · obtain ⟨r1, r2, r3⟩ := hlay.ready (b := n) (Nat.le_refl _) (by omega) hp2
          repeat' (first | refine aw_seq ?_ | refine zz ?_ | refine zon fun _ => ?_ | refine zoa fun vr lr hr => ?_ | ((apply ao_callH; exact wants_a; (exact oc_func rfl); (exact rfl); (exact Cut.here1); (exact sym_ok hC g n (by omega) _ p (p + s) n _ _ e (by omega) rfl (Nat.le_refl _) (by omega) (by omega) (Nat.le_refl _) r1 r2 r3 _ R); rintro _ _ ⟨rfl, e2, hmv2, hord2, rfl⟩)) | refine zoS (fun _ => ?_) (fun _ => ?_) | refine zqS (fun _ => ?_) (fun _ => ?_) | refine zwS (fun _ => ?_) (fun _ => ?_))
          rw [show ((s : Int) * 2) = ((2 * s : Nat) : Int) by omega]
          exact lq_normal' ⟨2 * s, e2, rfl, by omega, by omega, hlay.done (by omega) hmv2 hord2, hmv.trans (hmv2.mono (Nat.zero_le _) (Nat.le_refl _)), rfl, rfl⟩ (by omega) (by repeat (first | exact sub_nil | refine sub_cons rfl ?_)) (List.Sublist.refl _)
        · repeat' (first | refine aw_seq ?_ | refine zz ?_ | refine zon fun _ => ?_ | refine zoa fun vr lr hr => ?_ | refine zoS (fun _ => ?_) (fun _ => ?_) | refine zqS (fun _ => ?_) (fun _ => ?_) | refine zwS (fun _ => ?_) (fun _ => ?_))
          rw [show ((s : Int) * 2) = ((2 * s : Nat) : Int) by omega]
          exact lq_normal' ⟨2 * s, e, rfl, by omega, by omega, hlay.done (by omega) .refl (hlay.last (by omega)), hmv, rfl, rfl⟩ (by omega) (by repeat (first | exact sub_nil | refine sub_cons rfl ?_)) (List.Sublist.refl _)
    · repeat' (first | refine aw_seq ?_ | refine zz ?_ | refine zon fun _ => ?_ | refine zoa fun vr lr hr => ?_ | refine zoS (fun _ => ?_) (fun _ => ?_) | refine zqS (fun _ => ?_) (fun _ => ?_) | refine zwS (fun _ => ?_) (fun _ => ?_))
      exact ⟨_, List.Sublist.refl _, e, hmv, hlay.all (by omega), rfl⟩
set_option maxHeartbeats 4000000 in
theorem sst_ok {c : FuncId} [FnB Tryz.prog c] {lt : α → α → Prop} {x : α → Nat} {cmp : α → α → Int} (hC : Cmp f c lt x cmp) {B mm : Nat} {w0 : World} (g n : Nat) (hn : n ≤ 400000) (d : Nat → α) (hx : ∀ i j, i < j → j < n → x (d i) < x (d j)) (R : Hp) :
    CallsH Tryz.prog ⟨B, w0, mm⟩ 94 [SV g n, FV c] ([RO f g n d] ++ R) (SortedTo lt f g n 0 n d R) := by
  refine callsH0 (K := fun H' => ∃ e, Mv 0 n d e ∧ Ord lt e 0 n ∧ H' = RO f g n e :: R) Tryz.func94 rfl rfl rfl rfl ?_
  repeat' (first | refine aw_seq ?_ | refine zz ?_ | refine zon fun _ => ?_ | refine zoa fun vr lr hr => ?_ | ((apply ao_callH; exact wants_a; (exact oc_func rfl); (exact rfl); (exact Cut.here1); (exact stb_ok hC g n hn d hx R); rintro _ _ ⟨rfl, e2, hmv2, hord2, rfl⟩)) | refine zoS (fun _ => ?_) (fun _ => ?_) | refine zqS (fun _ => ?_) (fun _ => ?_) | refine zwS (fun _ => ?_) (fun _ => ?_))
  exact ⟨_, List.Sublist.refl _, e2, hmv2, hord2, rfl⟩
end Srw
end Go.Proofs.YtdakeicfhbggeaaGreat
