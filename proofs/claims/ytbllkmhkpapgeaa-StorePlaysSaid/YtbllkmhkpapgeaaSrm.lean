/- Contracts of the library's stable sort over objects: the sort by insertion, the merge; conditions: rows of at most 1,000,000 elements. -/
import Derived.Test.YtbllkmhkpapgeaaSrw
namespace Go.Proofs.Ytbllkmhkpapgeaa
namespace Srw
open Go Go.RowKit Sx Srt
attribute [local irreducible] Go.Calls
variable {α : Type} {f : α → List Value}

/-- A function that tells which one is ahead, an order that it tells of those of which it is known which one came ahead. -/
structure Cmp (f : α → List Value) (c : FuncId) (lt : α → α → Prop) (x : α → Nat) (cmp : α → α → Int) : Prop where
  len : ∀ u, (f u).length = 8
  flat : ∀ u, (f u).all flat = true
  less : ∀ u v, x u < x v → decide (cmp v u < 0) = true → lt v u
  more : ∀ u v, x u < x v → decide (cmp v u < 0) = false → lt u v
  trans : ∀ u v w, lt u v → lt v w → lt u w
  call : ∀ u v w, Calls Try.prog c #[.agg (f u).toArray, .agg (f v).toArray] w fun e w' => e = .returned (I (cmp u v)) ∧ Below w.heap.size w w'

def SortedTo (lt : α → α → Prop) (f : α → List Value) (g n a b : Nat) (d : Nat → α) (R : Hp) : Value → Hp → Prop := fun u H' => u = .tuple #[] ∧ ∃ e, Mv a b d e ∧ Ord lt e a b ∧ H' = RO f g n e :: R

set_option maxHeartbeats 16000000 in
theorem ins_ok {c : FuncId} [FnB Try.prog c] {lt : α → α → Prop} {x : α → Nat} {cmp : α → α → Int} (hC : Cmp f c lt x cmp) {B mm : Nat} {w0 : World} (g n a b : Nat) (za zb : Int) (hza : za = a) (hzb : zb = b) (d : Nat → α) (hab : a ≤ b) (hb : b ≤ n) (hn : n ≤ 1000000)
    (hx : ∀ i j, a ≤ i → i < j → j < b → x (d i) < x (d j)) (R : Hp) :
    CallsH Try.prog ⟨B, w0, mm⟩ 75 [SV g n, I za, I zb, FV c] ([RO f g n d] ++ R) (SortedTo lt f g n a b d R) := by
  subst hza hzb
  refine callsH0 (K := fun H' => ∃ e, Mv a b d e ∧ Ord lt e a b ∧ H' = RO f g n e :: R) Try.func75 rfl rfl rfl rfl ?_
  repeat' (first | refine aw_seq ?_ | refine zz ?_ | refine zon fun _ => ?_ | refine zoa fun vr lr hr => ?_ | refine zoS (fun _ => ?_) (fun _ => ?_) | refine zqS (fun _ => ?_) (fun _ => ?_) | refine zwS (fun _ => ?_) (fun _ => ?_))
  rw [show ((a : Int) + 1) = ((a + 1 : Nat) : Int) by omega]
  refine aw_for (t0 := [(0, SV g n), (1, I a), (2, I b), (3, FV c), (8, I (a + 1 : Nat))]) (fun q t H => ∃ (i : Nat) (e : Nat → α), q = b - i ∧ a + 1 ≤ i ∧ i ≤ max b (a + 1) ∧ Mv a (min i b) d e ∧ Ord lt e a i ∧ t = [(0, SV g n), (1, I a), (2, I b), (3, FV c), (8, I i)] ∧ H = RO f g n e :: R)
    ⟨a + 1, d, rfl, by omega, by omega, .refl, .one, rfl, rfl⟩ (by repeat (first | exact sub_nil | refine sub_cons rfl ?_)) ?_
  rintro q t H ⟨i, e, rfl, hai, hib, hmv, hord, rfl, rfl⟩
  by_cases hlt : i < b
  · rw [Nat.min_eq_left (by omega)] at hmv
    have hcame : ∀ k, a ≤ k → k < i → x (e k) < x (e i) := fun k h1 h2 => by
      obtain ⟨j, g1, g2, g3⟩ := hmv.to h1 h2
      rw [g3, hmv.out (.inr (Nat.le_refl _))]
      exact hx j i g1 g2 hlt
    repeat' (first | refine aw_seq ?_ | refine zz ?_ | refine zon fun _ => ?_ | refine zoa fun vr lr hr => ?_ | refine zoS (fun _ => ?_) (fun _ => ?_) | refine zqS (fun _ => ?_) (fun _ => ?_) | refine zwS (fun _ => ?_) (fun _ => ?_))
    refine aw_for (t0 := [(0, SV g n), (1, I a), (2, I b), (3, FV c), (8, I i), (9, I i)]) (fun q t H => ∃ j : Nat, q = j + 1 ∧ a ≤ j ∧ j ≤ i ∧ (∀ k, j ≤ k → k < i → lt (e i) (e k)) ∧ t = [(0, SV g n), (1, I a), (2, I b), (3, FV c), (8, I i), (9, I j)] ∧ H = RO f g n (rot e j i (i + 1)) :: R)
      ⟨i, rfl, by omega, by omega, fun k h1 h2 => by omega, rfl, by rw [down_none]⟩ (by repeat (first | exact sub_nil | refine sub_cons rfl ?_)) ?_
    rintro q t H ⟨j, rfl, haj, hji, hall, rfl, rfl⟩
    have fin : (∀ k, a ≤ k → k < j → lt (e k) (e i)) → Mv a (min (i + 1) b) d (rot e j i (i + 1)) ∧ Ord lt (rot e j i (i + 1)) a (i + 1) := fun h => by
      rw [Nat.min_eq_left (by omega)]
      exact ⟨(hmv.mono (Nat.le_refl _) (by omega)).trans ((rot_mv hji (by omega)).mono haj (Nat.le_refl _)), hord.down haj hji h hall⟩
    by_cases hj : a < j
    · have s1 : sl (0 + ((j : Int)).toNat * 8) 8 (rowL f n (rot e j i (i + 1))) = some (f (e i)) := by
        rw [rowL_sl hC.len (by omega) (i := j) (by omega) rfl, rot_lo (by omega) (by omega) hji (by omega), show j + (i - j) = i by omega]
      have s2 : sl (0 + ((j : Int) - 1).toNat * 8) 8 (rowL f n (rot e j i (i + 1))) = some (f (e (j - 1))) := by
        rw [rowL_sl hC.len (by omega) (i := j - 1) (by omega) (by omega), rot_out (by omega)]
      have hcl := fun w => hC.call (e i) (e (j - 1)) w
      cases hc : decide (cmp (e i) (e (j - 1)) < 0)
      · have hm := hC.more _ _ (hcame (j - 1) (by omega) (by omega)) hc
        obtain ⟨f1, f2⟩ := fin fun k h1 h2 => hord.ltl hC.trans h1 (show k ≤ j - 1 by omega) (by omega) hm
        repeat' (first | refine aw_seq ?_ | refine zz ?_ | refine zon fun _ => ?_ | refine zoa fun vr lr hr => ?_ | ((first | apply ao_call | apply aq_call); exact wants_a; (first | exact oc_func rfl | exact oc_clos rfl rfl); (exact rfl); (first | exact fun w hw => hcl w)) | refine zoS (fun _ => ?_) (fun _ => ?_) | refine zqS (fun _ => ?_) (fun _ => ?_) | refine zwS (fun _ => ?_) (fun _ => ?_))
        rw [show ((i : Int) + 1) = ((i + 1 : Nat) : Int) by omega]
        exact lq_normal' ⟨i + 1, _, rfl, by omega, by omega, f1, f2, rfl, rfl⟩ (by omega) (by repeat (first | exact sub_nil | refine sub_cons rfl ?_)) (List.Sublist.refl _)
      · have hm := hC.less _ _ (hcame (j - 1) (by omega) (by omega)) hc
        have hsw := down_one (d := e) (i := i) (j := j - 1) (by omega)
        rw [show j - 1 + 1 = j by omega, ← upd_swp, rot_out (k := j - 1) (by omega), rot_lo (k := j) (by omega) (by omega) hji (by omega), show j + (i - j) = i by omega] at hsw
        repeat' (first | (apply ao_nilh; exact hsub_a) | apply ao_nil | apply aq_nil | apply ah_end | ((first | apply ao_val | apply aq_val | (apply ah_take; (exact rfl))); exact wants_a; exact ov_a; (exact rfl)) | ((first | apply ao_skip | apply aq_skip | (apply ah_skip; (exact rfl))); exact nots_a; (exact rfl)) | (refine ao_is ?_; first | (apply ao_new; exact wants_a; exact on_a; (exact rfl); intro _) | (apply ao_store; exact wants_a; exact ow_a; exact upd_a) | (apply ao_valw; exact wants_a; exact ox_a; (exact rfl); exact upd_a) | (apply ao_skip0; exact nots_a) | (apply ao_append; exact wants_a; (exact rfl); assumption; (exact rfl); exact cut_a; exact has_a; (exact rfl); (exact rfl); omega; omega; omega; (exact rfl); intro vr lr hr)) | ((first | apply ao_call | apply aq_call); exact wants_a; (first | exact oc_func rfl | exact oc_clos rfl rfl); (exact rfl); (first | exact fun w hw => hcl w)) | ((refine ao_is ?_; apply ao_store; exact wants_a; (apply ow_storeR hC.len hC.flat (i := j); (exact rfl); omega; (exact rfl); exact has_a; omega); exact upd_a)) | ((refine ao_is ?_; apply ao_store; exact wants_a; (apply ow_storeR hC.len hC.flat (i := j - 1); (exact rfl); omega; (exact rfl); exact has_a; omega); exact upd_a)) | (apply ah_one; (exact rfl)) | (apply ah_two; (exact rfl); (exact rfl)) | (apply ah_three; (exact rfl); (exact rfl); (exact rfl)) | (refine aw_is ?_; first | (apply aw_held (id := 6) (pl := (.t 0 (.t 1 (.t 2 (.t 3 (.t 4 (.t 5 (.t 6 (.t 7 (.t 8 (.t 10 (.t 11 (.t 12 (.w 9 (.o 13 (.t 14 (.o 15 (.t 16 (.o 17 .e))))) 13 (.o 9 (.t 14 (.o 15 (.t 16 (.o 17 .e))))))))))))))))))); (kernel_rfl); (kernel_rfl); (kernel_rfl); (solve | (apply hs_skip; exact List.Sublist.refl _))) | refine aw_seq ?_ | refine aw_block ?_ | refine aw_region ?_ | refine aw_skip ?_ | refine aw_exit ?_ | refine aw_ret ?_ | refine aw_label ?_ | refine aw_scope ?_ | refine aw_cond_t rfl (by with_reducible rfl) ?_ | refine aw_cond_f rfl (by with_reducible rfl) ?_ | refine aw_draw (by kernel_rfl) (by kernel_rfl) ?_) | (first | (refine ah_is ?_; (fail_if_success first | refine ah_glit (b := true) rfl rfl rfl (by with_reducible rfl) ?_ | refine ah_glit (b := false) rfl rfl rfl (by with_reducible rfl) ?_); apply ah_gt; (exact rfl); (exact rfl); (exact rfl); exact t_a) | ((refine ao_is ?_; (fail_if_success first | refine ao_glit (b := true) rfl rfl (by with_reducible rfl) ?_ | refine ao_glit (b := false) rfl rfl (by with_reducible rfl) ?_)); apply ao_gt; (exact rfl); (exact rfl); exact t_a) | ((refine aq_is ?_; (fail_if_success first | refine aq_glit (b := true) rfl rfl (by with_reducible rfl) ?_ | refine aq_glit (b := false) rfl rfl (by with_reducible rfl) ?_)); apply aq_gt; (exact rfl); (exact rfl); exact t_a) | (apply aw_ct; (exact rfl); exact t_a)) | (first | (refine ah_is ?_; (fail_if_success first | refine ah_glit (b := true) rfl rfl rfl (by with_reducible rfl) ?_ | refine ah_glit (b := false) rfl rfl rfl (by with_reducible rfl) ?_); apply ah_gf; (exact rfl); (exact rfl); (exact rfl); exact f_a) | ((refine ao_is ?_; (fail_if_success first | refine ao_glit (b := true) rfl rfl (by with_reducible rfl) ?_ | refine ao_glit (b := false) rfl rfl (by with_reducible rfl) ?_)); apply ao_gf; (exact rfl); (exact rfl); exact f_a) | ((refine aq_is ?_; (fail_if_success first | refine aq_glit (b := true) rfl rfl (by with_reducible rfl) ?_ | refine aq_glit (b := false) rfl rfl (by with_reducible rfl) ?_)); apply aq_gf; (exact rfl); (exact rfl); exact f_a) | (apply aw_cf; (exact rfl); exact f_a)) | refine at_normal ?_ | refine at_exit ?_ | refine at_ret ?_ | refine ib_normal ?_ | refine ib_exit ?_ | refine ib_other ?_ | refine ib_ret ?_ | refine lq_exit ?_ | refine lq_ret ?_ | refine ci_ret ?_ | refine ci_exit ?_ | refine r1_ret rfl ?_ | refine r1_normal rfl ?_ | refine r2_ret rfl rfl ?_ | refine r2_normal rfl rfl ?_ | refine r3_ret rfl rfl rfl ?_ | refine r3_normal rfl rfl rfl ?_ | refine ng_normal ?_ | refine ng_exit ?_ | refine ng_ret ?_ | (apply rt_ret; (exact rfl); (exact rfl); (exact rfl); exact has_a; exact has_a; (exact rfl); (exact rfl)) | (apply rc1_ret; (exact rfl); exact has_a; (exact rfl)) | (apply rc2_ret; (exact rfl); exact has_a; (exact rfl); (exact rfl)) | (refine ao_is ?_; (fail_if_success first | refine ao_glit (b := true) rfl rfl (by with_reducible rfl) ?_ | refine ao_glit (b := false) rfl rfl (by with_reducible rfl) ?_); refine ao_gbool rfl rfl (fun _ => ?_) (fun _ => ?_)) | (refine aq_is ?_; (fail_if_success first | refine aq_glit (b := true) rfl rfl (by with_reducible rfl) ?_ | refine aq_glit (b := false) rfl rfl (by with_reducible rfl) ?_); refine aq_gbool rfl rfl (fun _ => ?_) (fun _ => ?_)) | (refine aw_is ?_; refine aw_cond rfl (fun _ => ?_) (fun _ => ?_)))
        all_goals
          rw [hsw, show ((j : Int) - 1) = ((j - 1 : Nat) : Int) by omega]
          exact lq_normal' ⟨j - 1, rfl, by omega, by omega, fun k h1 h2 => by
            rcases Nat.eq_or_lt_of_le h1 with rfl | h3
            · exact hm
            · exact hall k (by omega) h2, rfl, rfl⟩ (by omega) (by repeat (first | exact sub_nil | refine sub_cons rfl ?_)) (List.Sublist.refl _)
    · obtain rfl : j = a := by omega
      obtain ⟨f1, f2⟩ := fin fun k h1 h2 => by omega
      repeat' (first | refine aw_seq ?_ | refine zz ?_ | refine zon fun _ => ?_ | refine zoa fun vr lr hr => ?_ | refine zoS (fun _ => ?_) (fun _ => ?_) | refine zqS (fun _ => ?_) (fun _ => ?_) | refine zwS (fun _ => ?_) (fun _ => ?_))
      rw [show ((i : Int) + 1) = ((i + 1 : Nat) : Int) by omega]
      exact lq_normal' ⟨i + 1, _, rfl, by omega, by omega, f1, f2, rfl, rfl⟩ (by omega) (by repeat (first | exact sub_nil | refine sub_cons rfl ?_)) (List.Sublist.refl _)
  · repeat' (first | refine aw_seq ?_ | refine zz ?_ | refine zon fun _ => ?_ | refine zoa fun vr lr hr => ?_ | refine zoS (fun _ => ?_) (fun _ => ?_) | refine zqS (fun _ => ?_) (fun _ => ?_) | refine zwS (fun _ => ?_) (fun _ => ?_))
    rw [Nat.min_eq_right (by omega)] at hmv
    exact ⟨_, List.Sublist.refl _, e, hmv, hord.sub (Nat.le_refl _) (by omega), rfl⟩
end Srw
end Go.Proofs.Ytbllkmhkpapgeaa
