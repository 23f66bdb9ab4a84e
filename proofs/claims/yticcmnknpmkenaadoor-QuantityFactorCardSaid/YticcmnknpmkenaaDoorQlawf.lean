/- The walk of QuantityFactor; conditions: the tables as they were laid. -/
import Derived.Test.YticcmnknpmkenaaDoorQlaw
namespace Go.Proofs.YticcmnknpmkenaaDoor
namespace Qty
open Go Go.RowKit Sx Wid
attribute [local irreducible] Go.Calls

/-- The suffixes of powers of ten, and of two. -/
def lsA : List (List UInt8) := [[], [107], [77], [71], [84]]
def lsB : List (List UInt8) := [[], [75, 105], [77, 105], [71, 105], [84, 105]]
theorem two_get (i : Nat) (h : i < 5) : ∃ s t, (lsA.map S)[0 + (i : Int).toNat * 1]? = some (S s) ∧ (lsB.map S)[0 + (i : Int).toNat * 1]? = some (S t) ∧ facI s = 1000 ^ i ∧ facI t = 1024 ^ i ∧ figN s = 0 ∧ figN t = 0 ∧ s.length ≤ 2 ∧ t.length ≤ 2 ∧
    (1000 : Int) ^ i ≤ 1000000000000 ∧ (1024 : Int) ^ i ≤ 1099511627776 ∧ 1 ≤ (1000 : Int) ^ i ∧ 1 ≤ (1024 : Int) ^ i := by
  match i, h with
  | 0, _ | 1, _ | 2, _ | 3, _ | 4, _ => exact ⟨_, _, rfl, rfl, by decide, by decide, by decide, by decide, by decide, by decide, by decide, by decide, by decide, by decide⟩

set_option maxHeartbeats 8000000 in
theorem factor_ok (n : Int) (h0 : 0 ≤ n) (h1 : n < 4294967296) (w : World) (hG : Gl w) : Calls Tryd.prog 5 #[.int .u32 n] w fun e w' => e = .returned (.bool true) ∧ Below w.heap.size w w' := by
  refine calls1 (args := [.int .u32 n]) Tryd.func5 rfl rfl rfl rfl ?_
  obtain ⟨k, hk⟩ : ∃ k, n % 1048577 = k := ⟨_, rfl⟩
  have k0 : 0 ≤ k := by omega
  have k1 : k ≤ 1048576 := by omega
  have hfl := figT_len k
  have hfig := fun w => rfigs_ok k k0 (by omega) w
  repeat' (first | (apply ao_nilh; exact hsub_a) | apply ao_nil | apply aq_nil | apply ah_end | ((first | apply ao_val | apply aq_val | (apply ah_take; (exact rfl))); exact wants_a; (first | exact ov_convR k rfl (by rw [hk]; exact wrap_i64 (by omega) (by omega)) | exact ov_a); (exact rfl)) | ((first | apply ao_skip | apply aq_skip | (apply ah_skip; (exact rfl))); exact nots_a; (exact rfl)) | (refine ao_is ?_; first | (apply ao_new; exact wants_a; exact on_a; (exact rfl); intro _) | (apply ao_store; exact wants_a; exact ow_a; exact upd_a) | (apply ao_valw; exact wants_a; exact ox_a; (exact rfl); exact upd_a) | (apply ao_skip0; exact nots_a) | (apply ao_append; exact wants_a; (exact rfl); assumption; (exact rfl); exact cut_a; exact has_a; (exact rfl); (exact rfl); omega; omega; omega; (exact rfl); intro vr lr hr)) | (apply ah_one; (exact rfl)) | (apply ah_two; (exact rfl); (exact rfl)) | (refine aw_is ?_; first | refine aw_seq ?_ | refine aw_block ?_ | refine aw_region ?_ | refine aw_skip ?_ | refine aw_exit ?_ | refine aw_ret ?_ | refine aw_label ?_ | refine aw_scope ?_ | refine aw_cond_t rfl (by with_reducible rfl) ?_ | refine aw_cond_f rfl (by with_reducible rfl) ?_ | refine aw_draw (by kernel_rfl) (by kernel_rfl) ?_) | ((first | (apply ao_gt; (exact rfl)) | (apply aq_gt; (exact rfl)) | apply aw_ct); (exact rfl); exact t_a) | ((first | (apply ao_gf; (exact rfl)) | (apply aq_gf; (exact rfl)) | apply aw_cf); (exact rfl); exact f_a) | refine at_normal ?_ | refine at_exit ?_ | refine at_ret ?_ | refine ib_normal ?_ | refine ib_exit ?_ | refine ib_other ?_ | refine ib_ret ?_ | refine lq_exit ?_ | refine lq_ret ?_ | refine ci_ret ?_ | refine ci_exit ?_ | refine r1_ret rfl ?_ | refine r1_normal rfl ?_ | refine r2_ret rfl rfl ?_ | refine r2_normal rfl rfl ?_ | refine r3_ret rfl rfl rfl ?_ | refine r3_normal rfl rfl rfl ?_ | refine ng_normal ?_ | refine ng_exit ?_ | refine ng_ret ?_ | (apply rc1_ret; (exact rfl); exact has_a; (exact rfl)) | (apply rc2_ret; (exact rfl); exact has_a; (exact rfl); (exact rfl)) | (refine ao_is ?_; (fail_if_success first | refine ao_glit (b := true) rfl rfl (by with_reducible rfl) ?_ | refine ao_glit (b := false) rfl rfl (by with_reducible rfl) ?_); refine ao_gbool rfl rfl (fun _ => ?_) (fun _ => ?_)) | (refine aq_is ?_; (fail_if_success first | refine aq_glit (b := true) rfl rfl (by with_reducible rfl) ?_ | refine aq_glit (b := false) rfl rfl (by with_reducible rfl) ?_); refine aq_gbool rfl rfl (fun _ => ?_) (fun _ => ?_)) | (refine aw_is ?_; refine aw_cond rfl (fun _ => ?_) (fun _ => ?_)))
  refine aw_for (t0 := [(3, I k), (4, .slice (some ⟨_, 0, none⟩) 5 5), (5, .slice (some ⟨_, 0, none⟩) 5 5), (6, I (1000 ^ 0)), (7, I (1024 ^ 0)), (8, I (0 : Nat))]) (fun q t H => ∃ (g g2 i : Nat), q = 5 - i ∧ i ≤ 5 ∧ t = [(3, I k), (4, .slice (some ⟨g, 0, none⟩) 5 5), (5, .slice (some ⟨g2, 0, none⟩) 5 5), (6, I (1000 ^ i)), (7, I (1024 ^ i)), (8, I i)] ∧ H = [(g2, .cells (lsB.map S).toArray 9), (g, .cells (lsA.map S).toArray 9)]) ⟨_, _, 0, rfl, by omega, rfl, rfl⟩ (by repeat (first | exact sub_nil | refine sub_cons rfl ?_)) ?_
  rintro q t H ⟨g, g2, i, rfl, hi, rfl, rfl⟩
  by_cases hlt : i < 5
  · obtain ⟨s, u, hcs, hcu, hf1, hf2, hs0, hu0, hsl, hul, b1, b2, b3, b4⟩ := two_get i hlt
    have n1 : (1000 : Int) ^ (i + 1) = 1000 * 1000 ^ i := by rw [Int.pow_succ, Int.mul_comm]
    have n2 : (1024 : Int) ^ (i + 1) = 1024 * 1024 ^ i := by rw [Int.pow_succ, Int.mul_comm]
    have p1 : parseQ (figT k ++ s) = .tuple #[I (k * facI s), I 0] := by
      have := parse_figs k0 (lenI_is k0 (by omega)) hs0 (by omega)
      rwa [if_pos (by
        have h1 := Int.mul_le_mul k1 (show facI s ≤ 1000000000000 by omega) (by omega) (by decide)
        omega)] at this
    have p2 : parseQ (figT k ++ u) = .tuple #[I (k * facI u), I 0] := by
      have := parse_figs k0 (lenI_is k0 (by omega)) hu0 (by omega)
      rwa [if_pos (by
        have h1 := Int.mul_le_mul k1 (show facI u ≤ 1099511627776 by omega) (by omega) (by decide)
        omega)] at this
    rw [hf1] at p1
    rw [hf2] at p2
    have m1 := Int.mul_le_mul k1 b1 (by omega) (by decide)
    have m2 := Int.mul_le_mul k1 b2 (by omega) (by decide)
    have m3 := Int.mul_nonneg k0 (show 0 ≤ (1000 : Int) ^ i by omega)
    have m4 := Int.mul_nonneg k0 (show 0 ≤ (1024 : Int) ^ i by omega)
    have q1 := fun w hG => parse_at (l := figT k ++ s) (by simp; omega) p1 w hG
    have q2 := fun w hG => parse_at (l := figT k ++ u) (by simp; omega) p2 w hG
    have r1 := fun w hG => fac_at hf1 w hG
    have r2 := fun w hG => fac_at hf2 w hG
    have e1 : ((1000 : Int) ^ i != 1000 ^ i) = false := bne_self_eq_false _
    have e2 : ((1024 : Int) ^ i != 1024 ^ i) = false := bne_self_eq_false _
    have e3 : (k * (1000 : Int) ^ i != k * 1000 ^ i) = false := bne_self_eq_false _
    have e4 : (k * (1024 : Int) ^ i != k * 1024 ^ i) = false := bne_self_eq_false _
    generalize (1000 : Int) ^ i = A at *
    generalize (1024 : Int) ^ i = B at *
    repeat' (first | (apply ao_nilh; exact hsub_a) | apply ao_nil | apply aq_nil | apply ah_end | ((first | apply ao_val | apply aq_val | (apply ah_take; (exact rfl))); exact wants_a; exact ov_a; (exact rfl)) | ((first | apply ao_skip | apply aq_skip | (apply ah_skip; (exact rfl))); exact nots_a; (exact rfl)) | (refine ao_is ?_; first | (apply ao_new; exact wants_a; exact on_a; (exact rfl); intro _) | (apply ao_store; exact wants_a; exact ow_a; exact upd_a) | (apply ao_valw; exact wants_a; exact ox_a; (exact rfl); exact upd_a) | (apply ao_skip0; exact nots_a) | (apply ao_append; exact wants_a; (exact rfl); assumption; (exact rfl); exact cut_a; exact has_a; (exact rfl); (exact rfl); omega; omega; omega; (exact rfl); intro vr lr hr)) | ((first | apply ao_call | apply aq_call); exact wants_a; (exact oc_func rfl); (exact rfl); (first | exact fun w hw => hfig w | exact fun w hw => q1 w (hG.below hw.below) | exact fun w hw => q2 w (hG.below hw.below) | exact fun w hw => r1 w (hG.below hw.below) | exact fun w hw => r2 w (hG.below hw.below))) | (apply ah_one; (exact rfl)) | (apply ah_two; (exact rfl); (exact rfl)) | (refine aw_is ?_; first | refine aw_seq ?_ | refine aw_block ?_ | refine aw_region ?_ | refine aw_skip ?_ | refine aw_exit ?_ | refine aw_ret ?_ | refine aw_label ?_ | refine aw_scope ?_ | refine aw_cond_t rfl (by with_reducible rfl) ?_ | refine aw_cond_f rfl (by with_reducible rfl) ?_ | refine aw_draw (by kernel_rfl) (by kernel_rfl) ?_) | ((first | (apply ao_gt; (exact rfl)) | (apply aq_gt; (exact rfl)) | apply aw_ct); (exact rfl); exact t_a) | ((first | (apply ao_gf; (exact rfl)) | (apply aq_gf; (exact rfl)) | apply aw_cf); (exact rfl); exact f_a) | refine at_normal ?_ | refine at_exit ?_ | refine at_ret ?_ | refine ib_normal ?_ | refine ib_exit ?_ | refine ib_other ?_ | refine ib_ret ?_ | refine lq_exit ?_ | refine lq_ret ?_ | refine ci_ret ?_ | refine ci_exit ?_ | refine r1_ret rfl ?_ | refine r1_normal rfl ?_ | refine r2_ret rfl rfl ?_ | refine r2_normal rfl rfl ?_ | refine r3_ret rfl rfl rfl ?_ | refine r3_normal rfl rfl rfl ?_ | refine ng_normal ?_ | refine ng_exit ?_ | refine ng_ret ?_ | (apply rc1_ret; (exact rfl); exact has_a; (exact rfl)) | (apply rc2_ret; (exact rfl); exact has_a; (exact rfl); (exact rfl)) | (refine ao_is ?_; (fail_if_success first | refine ao_glit (b := true) rfl rfl (by with_reducible rfl) ?_ | refine ao_glit (b := false) rfl rfl (by with_reducible rfl) ?_); refine ao_gbool rfl rfl (fun _ => ?_) (fun _ => ?_)) | (refine aq_is ?_; (fail_if_success first | refine aq_glit (b := true) rfl rfl (by with_reducible rfl) ?_ | refine aq_glit (b := false) rfl rfl (by with_reducible rfl) ?_); refine aq_gbool rfl rfl (fun _ => ?_) (fun _ => ?_)) | (refine aw_is ?_; refine aw_cond rfl (fun _ => ?_) (fun _ => ?_)))
    exact lq_normal ⟨g, g2, i + 1, rfl, by omega, by rw [n1, n2], rfl⟩ (by omega) (by repeat (first | exact sub_nil | refine sub_cons rfl ?_))
  · obtain rfl : i = 5 := by omega
    repeat' (first | (apply ao_nilh; exact hsub_a) | apply ao_nil | apply aq_nil | apply ah_end | ((first | apply ao_val | apply aq_val | (apply ah_take; (exact rfl))); exact wants_a; exact ov_a; (exact rfl)) | ((first | apply ao_skip | apply aq_skip | (apply ah_skip; (exact rfl))); exact nots_a; (exact rfl)) | (refine ao_is ?_; first | (apply ao_new; exact wants_a; exact on_a; (exact rfl); intro _) | (apply ao_store; exact wants_a; exact ow_a; exact upd_a) | (apply ao_valw; exact wants_a; exact ox_a; (exact rfl); exact upd_a) | (apply ao_skip0; exact nots_a) | (apply ao_append; exact wants_a; (exact rfl); assumption; (exact rfl); exact cut_a; exact has_a; (exact rfl); (exact rfl); omega; omega; omega; (exact rfl); intro vr lr hr)) | ((first | apply ao_call | apply aq_call); exact wants_a; (exact oc_func rfl); (exact rfl); (first | exact fun w hw => alive_ok w (hG.below hw.below))) | (apply ah_one; (exact rfl)) | (apply ah_two; (exact rfl); (exact rfl)) | (refine aw_is ?_; first | refine aw_seq ?_ | refine aw_block ?_ | refine aw_region ?_ | refine aw_skip ?_ | refine aw_exit ?_ | refine aw_ret ?_ | refine aw_label ?_ | refine aw_scope ?_ | refine aw_cond_t rfl (by with_reducible rfl) ?_ | refine aw_cond_f rfl (by with_reducible rfl) ?_ | refine aw_draw (by kernel_rfl) (by kernel_rfl) ?_) | ((first | (apply ao_gt; (exact rfl)) | (apply aq_gt; (exact rfl)) | apply aw_ct); (exact rfl); exact t_a) | ((first | (apply ao_gf; (exact rfl)) | (apply aq_gf; (exact rfl)) | apply aw_cf); (exact rfl); exact f_a) | refine at_normal ?_ | refine at_exit ?_ | refine at_ret ?_ | refine ib_normal ?_ | refine ib_exit ?_ | refine ib_other ?_ | refine ib_ret ?_ | refine lq_exit ?_ | refine lq_ret ?_ | refine ci_ret ?_ | refine ci_exit ?_ | refine r1_ret rfl ?_ | refine r1_normal rfl ?_ | refine r2_ret rfl rfl ?_ | refine r2_normal rfl rfl ?_ | refine r3_ret rfl rfl rfl ?_ | refine r3_normal rfl rfl rfl ?_ | refine ng_normal ?_ | refine ng_exit ?_ | refine ng_ret ?_ | (apply rc1_ret; (exact rfl); exact has_a; (exact rfl)) | (apply rc2_ret; (exact rfl); exact has_a; (exact rfl); (exact rfl)) | (refine ao_is ?_; (fail_if_success first | refine ao_glit (b := true) rfl rfl (by with_reducible rfl) ?_ | refine ao_glit (b := false) rfl rfl (by with_reducible rfl) ?_); refine ao_gbool rfl rfl (fun _ => ?_) (fun _ => ?_)) | (refine aq_is ?_; (fail_if_success first | refine aq_glit (b := true) rfl rfl (by with_reducible rfl) ?_ | refine aq_glit (b := false) rfl rfl (by with_reducible rfl) ?_); refine aq_gbool rfl rfl (fun _ => ?_) (fun _ => ?_)) | (refine aw_is ?_; refine aw_cond rfl (fun _ => ?_) (fun _ => ?_)))
    exact fun w' hw => ⟨rfl, hw.below⟩
end Qty
end Go.Proofs.YticcmnknpmkenaaDoor
