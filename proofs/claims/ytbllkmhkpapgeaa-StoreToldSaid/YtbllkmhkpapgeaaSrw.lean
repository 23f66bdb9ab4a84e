/- Contracts of the library's stable sort over objects: swaps of ranges, rotations; conditions: rows of at most 1,000,000 elements. -/
import Derived.Test.YtbllkmhkpapgeaaSxw
import Derived.Test.YtbllkmhkpapgeaaSrs
import Derived.Test.YtbllkmhkpapgeaaTy
namespace Go.Proofs.Ytbllkmhkpapgeaa
namespace Srw
open Go Go.RowKit Sx Srt
attribute [local irreducible] Go.Calls
variable {α : Type} {f : α → List Value}

abbrev RO (f : α → List Value) (g n : Nat) (d : Nat → α) : Nat × Obj := (g, .cells (rowL f n d).toArray 38 (0, 0))
abbrev SV (g n : Nat) : Value := .slice (some ⟨g, 0, none⟩) n n
abbrev FV (c : FuncId) : Value := .func (.func c) #[] #[]

set_option maxHeartbeats 8000000 in
theorem swr_ok (hf : ∀ x, (f x).length = 8) (hfl : ∀ x, (f x).all flat = true) (c : FuncId) {B m : Nat} {w0 : World} (g n a b k : Nat) (za zb : Int) (hza : za = a) (hzb : zb = b) (d : Nat → α) (h1 : a + k ≤ b) (h2 : b + k ≤ n) (hn : n ≤ 1000000) :
    CallsF Try.prog ⟨B, w0, m⟩ 92 [SV g n, I za, I zb, I k, FV c] [RO f g n d] (.tuple #[]) [RO f g n (swr d a b k)] := by
  subst hza hzb
  refine callsF0 Try.func92 rfl rfl rfl rfl fun R => ?_
  repeat' (first | refine aw_seq ?_ | refine zz ?_ | refine zon fun _ => ?_ | refine zoa fun vr lr hr => ?_ | refine zoS (fun _ => ?_) (fun _ => ?_) | refine zqS (fun _ => ?_) (fun _ => ?_) | refine zwS (fun _ => ?_) (fun _ => ?_))
  refine aw_for (t0 := [(0, SV g n), (1, I a), (2, I b), (3, I k), (10, I (0 : Nat))]) (fun q t H => ∃ i : Nat, q = k - i ∧ i ≤ k ∧ t = [(0, SV g n), (1, I a), (2, I b), (3, I k), (10, I i)] ∧ H = RO f g n (swr d a b i) :: R) ⟨0, rfl, by omega, rfl, by rw [swr_zero]; rfl⟩ (by repeat (first | exact sub_nil | refine sub_cons rfl ?_)) ?_
  rintro q t H ⟨i, rfl, hi, rfl, rfl⟩
  by_cases hlt : i < k
  · have s1 := rowL_sl (f := f) (n := n) hf (by omega) (d := swr d a b i) (i := a + i) (by omega) (z := (a : Int) + (i : Int)) (by omega)
    have s2 := rowL_sl (f := f) (n := n) hf (by omega) (d := swr d a b i) (i := b + i) (by omega) (z := (b : Int) + (i : Int)) (by omega)
    repeat' (first | (apply ao_nilh; exact hsub_a) | apply ao_nil | apply aq_nil | apply ah_end | ((first | apply ao_val | apply aq_val | (apply ah_take; (exact rfl))); exact wants_a; exact ov_a; (exact rfl)) | ((first | apply ao_skip | apply aq_skip | (apply ah_skip; (exact rfl))); exact nots_a; (exact rfl)) | (refine ao_is ?_; first | (apply ao_new; exact wants_a; exact on_a; (exact rfl); intro _) | (apply ao_store; exact wants_a; exact ow_a; exact upd_a) | (apply ao_valw; exact wants_a; exact ox_a; (exact rfl); exact upd_a) | (apply ao_skip0; exact nots_a) | (apply ao_append; exact wants_a; (exact rfl); assumption; (exact rfl); exact cut_a; exact has_a; (exact rfl); (exact rfl); omega; omega; omega; (exact rfl); intro vr lr hr)) | ((refine ao_is ?_; apply ao_store; exact wants_a; (apply ow_storeR hf hfl (i := a + i); (exact rfl); omega; (exact rfl); exact has_a; omega); exact upd_a)) | ((refine ao_is ?_; apply ao_store; exact wants_a; (apply ow_storeR hf hfl (i := b + i); (exact rfl); omega; (exact rfl); exact has_a; omega); exact upd_a)) | (apply ah_one; (exact rfl)) | (apply ah_two; (exact rfl); (exact rfl)) | (apply ah_three; (exact rfl); (exact rfl); (exact rfl)) | (refine aw_is ?_; first | (apply aw_held (id := 3) (pl := (.t 0 (.t 1 (.t 2 (.t 3 (.t 4 (.t 5 (.t 6 (.t 7 (.t 8 (.t 9 (.t 10 (.t 11 (.t 12 (.t 14 (.t 15 (.t 16 (.t 17 (.t 18 (.w 13 (.o 19 (.t 20 (.o 21 (.t 22 (.o 23 .e))))) 19 (.o 13 (.t 20 (.o 21 (.t 22 (.o 23 .e))))))))))))))))))))))))); (kernel_rfl); (kernel_rfl); (kernel_rfl); (solve | (apply hs_skip; exact List.Sublist.refl _))) | refine aw_seq ?_ | refine aw_block ?_ | refine aw_region ?_ | refine aw_skip ?_ | refine aw_exit ?_ | refine aw_ret ?_ | refine aw_label ?_ | refine aw_scope ?_ | refine aw_cond_t rfl (by with_reducible rfl) ?_ | refine aw_cond_f rfl (by with_reducible rfl) ?_ | refine aw_draw (by kernel_rfl) (by kernel_rfl) ?_) | (first | (refine ah_is ?_; (fail_if_success first | refine ah_glit (b := true) rfl rfl rfl (by with_reducible rfl) ?_ | refine ah_glit (b := false) rfl rfl rfl (by with_reducible rfl) ?_); apply ah_gt; (exact rfl); (exact rfl); (exact rfl); exact t_a) | ((refine ao_is ?_; (fail_if_success first | refine ao_glit (b := true) rfl rfl (by with_reducible rfl) ?_ | refine ao_glit (b := false) rfl rfl (by with_reducible rfl) ?_)); apply ao_gt; (exact rfl); (exact rfl); exact t_a) | ((refine aq_is ?_; (fail_if_success first | refine aq_glit (b := true) rfl rfl (by with_reducible rfl) ?_ | refine aq_glit (b := false) rfl rfl (by with_reducible rfl) ?_)); apply aq_gt; (exact rfl); (exact rfl); exact t_a) | (apply aw_ct; (exact rfl); exact t_a)) | (first | (refine ah_is ?_; (fail_if_success first | refine ah_glit (b := true) rfl rfl rfl (by with_reducible rfl) ?_ | refine ah_glit (b := false) rfl rfl rfl (by with_reducible rfl) ?_); apply ah_gf; (exact rfl); (exact rfl); (exact rfl); exact f_a) | ((refine ao_is ?_; (fail_if_success first | refine ao_glit (b := true) rfl rfl (by with_reducible rfl) ?_ | refine ao_glit (b := false) rfl rfl (by with_reducible rfl) ?_)); apply ao_gf; (exact rfl); (exact rfl); exact f_a) | ((refine aq_is ?_; (fail_if_success first | refine aq_glit (b := true) rfl rfl (by with_reducible rfl) ?_ | refine aq_glit (b := false) rfl rfl (by with_reducible rfl) ?_)); apply aq_gf; (exact rfl); (exact rfl); exact f_a) | (apply aw_cf; (exact rfl); exact f_a)) | refine at_normal ?_ | refine at_exit ?_ | refine at_ret ?_ | refine ib_normal ?_ | refine ib_exit ?_ | refine ib_other ?_ | refine ib_ret ?_ | refine lq_exit ?_ | refine lq_ret ?_ | refine ci_ret ?_ | refine ci_exit ?_ | refine r1_ret rfl ?_ | refine r1_normal rfl ?_ | refine r2_ret rfl rfl ?_ | refine r2_normal rfl rfl ?_ | refine r3_ret rfl rfl rfl ?_ | refine r3_normal rfl rfl rfl ?_ | refine ng_normal ?_ | refine ng_exit ?_ | refine ng_ret ?_ | (apply rt_ret; (exact rfl); (exact rfl); (exact rfl); exact has_a; exact has_a; (exact rfl); (exact rfl)) | (apply rc1_ret; (exact rfl); exact has_a; (exact rfl)) | (apply rc2_ret; (exact rfl); exact has_a; (exact rfl); (exact rfl)) | (refine ao_is ?_; (fail_if_success first | refine ao_glit (b := true) rfl rfl (by with_reducible rfl) ?_ | refine ao_glit (b := false) rfl rfl (by with_reducible rfl) ?_); refine ao_gbool rfl rfl (fun _ => ?_) (fun _ => ?_)) | (refine aq_is ?_; (fail_if_success first | refine aq_glit (b := true) rfl rfl (by with_reducible rfl) ?_ | refine aq_glit (b := false) rfl rfl (by with_reducible rfl) ?_); refine aq_gbool rfl rfl (fun _ => ?_) (fun _ => ?_)) | (refine aw_is ?_; refine aw_cond rfl (fun _ => ?_) (fun _ => ?_)))
    all_goals
      rw [upd_swp, swr_one (by omega)]
      exact lq_normal' ⟨i + 1, rfl, by omega, rfl, rfl⟩ (by omega) (by repeat (first | exact sub_nil | refine sub_cons rfl ?_)) (List.Sublist.refl _)
  · obtain rfl : i = k := by omega
    repeat' (first | refine aw_seq ?_ | refine zz ?_ | refine zon fun _ => ?_ | refine zoa fun vr lr hr => ?_ | refine zoS (fun _ => ?_) (fun _ => ?_) | refine zqS (fun _ => ?_) (fun _ => ?_) | refine zwS (fun _ => ?_) (fun _ => ?_))
    all_goals exact List.Sublist.refl _

set_option maxHeartbeats 8000000 in
theorem rot_ok (hf : ∀ x, (f x).length = 8) (hfl : ∀ x, (f x).all flat = true) (c : FuncId) {B mm : Nat} {w0 : World} (g n a m b : Nat) (zb : Int) (hzb : zb = b) (d : Nat → α) (h1 : a < m) (h2 : m < b) (h3 : b ≤ n) (hn : n ≤ 1000000) :
    CallsF Try.prog ⟨B, w0, mm⟩ 80 [SV g n, I a, I m, I zb, FV c] [RO f g n d] (.tuple #[]) [RO f g n (rot d a m b)] := by
  subst hzb
  refine callsF0 Try.func80 rfl rfl rfl rfl fun R => ?_
  repeat' (first | refine aw_seq ?_ | refine zz ?_ | refine zon fun _ => ?_ | refine zoa fun vr lr hr => ?_ | refine zoS (fun _ => ?_) (fun _ => ?_) | refine zqS (fun _ => ?_) (fun _ => ?_) | refine zwS (fun _ => ?_) (fun _ => ?_))
  rw [show ((m : Int) - (a : Int)) = ((m - a : Nat) : Int) by omega, show ((b : Int) - (m : Int)) = ((b - m : Nat) : Int) by omega]
  refine aw_for (t0 := [(0, SV g n), (2, I m), (4, FV c), (10, I (m - a : Nat)), (11, I (b - m : Nat))]) (fun q t H => ∃ (i j : Nat) (e : Nat → α), q = i + j ∧ 0 < i ∧ 0 < j ∧ i ≤ m ∧ m + j ≤ n ∧ rot e (m - i) m (m + j) = rot d a m b ∧ t = [(0, SV g n), (2, I m), (4, FV c), (10, I i), (11, I j)] ∧ H = RO f g n e :: R)
    ⟨m - a, b - m, d, rfl, by omega, by omega, by omega, by omega, by rw [show m - (m - a) = a by omega, show m + (b - m) = b by omega], rfl, rfl⟩ (by repeat (first | exact sub_nil | refine sub_cons rfl ?_)) ?_
  rintro q t H ⟨i, j, e, rfl, hi0, hj0, hi, hj, hrot, rfl, rfl⟩
  by_cases hij : i = j
  · subst hij
    repeat' (first | refine aw_seq ?_ | refine zz ?_ | refine zon fun _ => ?_ | refine zoa fun vr lr hr => ?_ | (apply ao_callF; exact wants_a; (first | exact oc_func rfl | exact oc_clos rfl rfl); (exact rfl); (first | exact swr_ok hf hfl c g n (m - i) m i _ _ (by omega) rfl e (by omega) hj hn); exact cuts_a; intro _ hH; simp only [List.cons_append, List.nil_append] at hH; subst hH) | refine zoS (fun _ => ?_) (fun _ => ?_) | refine zqS (fun _ => ?_) (fun _ => ?_) | refine zwS (fun _ => ?_) (fun _ => ?_))
    all_goals
      rw [rot_same hi, hrot]
      exact List.Sublist.refl _
  · by_cases hlt : j < i
    · repeat' (first | refine aw_seq ?_ | refine zz ?_ | refine zon fun _ => ?_ | refine zoa fun vr lr hr => ?_ | (apply ao_callF; exact wants_a; (first | exact oc_func rfl | exact oc_clos rfl rfl); (exact rfl); (first | exact swr_ok hf hfl c g n (m - i) m j _ _ (by omega) rfl e (by omega) hj hn); exact cuts_a; intro _ hH; simp only [List.cons_append, List.nil_append] at hH; subst hH) | refine zoS (fun _ => ?_) (fun _ => ?_) | refine zqS (fun _ => ?_) (fun _ => ?_) | refine zwS (fun _ => ?_) (fun _ => ?_))
      all_goals
        rw [show ((i : Int) - (j : Int)) = ((i - j : Nat) : Int) by omega]
        exact lq_normal' ⟨i - j, j, _, rfl, by omega, hj0, by omega, hj, (rot_left hlt hi).trans hrot, rfl, rfl⟩ (by omega) (by repeat (first | exact sub_nil | refine sub_cons rfl ?_)) (List.Sublist.refl _)
    · repeat' (first | refine aw_seq ?_ | refine zz ?_ | refine zon fun _ => ?_ | refine zoa fun vr lr hr => ?_ | (apply ao_callF; exact wants_a; (first | exact oc_func rfl | exact oc_clos rfl rfl); (exact rfl); (first | exact swr_ok hf hfl c g n (m - i) (m + j - i) i _ _ (by omega) (by omega) e (by omega) (by omega) hn); exact cuts_a; intro _ hH; simp only [List.cons_append, List.nil_append] at hH; subst hH) | refine zoS (fun _ => ?_) (fun _ => ?_) | refine zqS (fun _ => ?_) (fun _ => ?_) | refine zwS (fun _ => ?_) (fun _ => ?_))
      all_goals
        rw [show ((j : Int) - (i : Int)) = ((j - i : Nat) : Int) by omega]
        exact lq_normal' ⟨i, j - i, _, rfl, hi0, by omega, hi, by omega, (rot_right (by omega) hi).trans hrot, rfl, rfl⟩ (by omega) (by repeat (first | exact sub_nil | refine sub_cons rfl ?_)) (List.Sublist.refl _)
end Srw
end Go.Proofs.Ytbllkmhkpapgeaa
