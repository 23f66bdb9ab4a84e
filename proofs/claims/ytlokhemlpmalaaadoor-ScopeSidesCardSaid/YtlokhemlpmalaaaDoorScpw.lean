/- Contract of the landed Text of layer 6; conditions: the words as they were laid; values of at most 100,000 bytes, lists of at most 100,000, with room for what they have. -/
import Derived.Test.YtlokhemlpmalaaaDoorScpg
import Derived.Test.YtlokhemlpmalaaaDoorScpu
import Derived.Test.YtlokhemlpmalaaaDoorScpy
import Derived.Test.YtlokhemlpmalaaaDoorScpk
namespace Go.Proofs.YtlokhemlpmalaaaDoor
namespace Scp
open Go Go.RowKit Sx Lab
attribute [local irreducible] Go.Calls

theorem set_twice (cs : List Value) (i : Nat) (a b : Value) : (cs.set i a).set i b = cs.set i b := by simp

set_option maxHeartbeats 16000000 in
theorem ptext_ok (v : Value) (ps : List (Value × Trm)) (hwf : wfP ps) (hcp : CapP ps) (w : World) (hG : Glo w) (hv : ScpAt w v ps) : Calls Tryd.prog 15 #[v] w fun e w' => e = .returned (S (textS (trms ps))) ∧ Below w.heap.size w w' := by
  have hln := hwf.1
  have hrg := fun w' (hb : Below w.heap.size w w') => pright_ok v ps hwf w' (hv.below hb)
  obtain ⟨a, cp, rfl, hat⟩ := OldRow.cells cellsT_len hv.1
  refine calls1 (args := [.slice a ps.length cp]) Tryd.func15 rfl rfl rfl rfl ?_
  cases hrt : rightS (trms ps)
  · rw [show textS (trms ps) = [] by unfold textS; rw [hrt]; rfl]
    rw [hrt] at hrg
    repeat' (first | refine aw_seq ?_ | refine zz ?_ | refine zon fun _ => ?_ | refine zoa fun vr lr hr => ?_ | ((first | apply ao_call | apply aq_call); exact wants_a; (first | exact oc_func rfl | exact oc_clos rfl rfl); (exact rfl); (first | exact fun w hw => hrg w hw.below)) | refine zoS (fun _ => ?_) (fun _ => ?_) | refine zqS (fun _ => ?_) (fun _ => ?_) | refine zwS (fun _ => ?_) (fun _ => ?_))
    exact fun w' hw => ⟨rfl, hw.below⟩
  rw [hrt] at hrg
  obtain ⟨h8, hall⟩ := right_all hrt
  rw [List.length_map] at h8
  by_cases hne : ps.length = 0
  · obtain rfl : ps = [] := List.eq_nil_of_length_eq_zero hne
    rw [show textS (trms []) = [97, 108, 108] from rfl]
    have hb : ((0 : Int) == 0) = true := rfl
    repeat' (first | refine aw_seq ?_ | refine zz ?_ | refine zon fun _ => ?_ | refine zoa fun vr lr hr => ?_ | ((first | apply ao_call | apply aq_call); exact wants_a; (first | exact oc_func rfl | exact oc_clos rfl rfl); (exact rfl); (first | exact fun w hw => hrg w hw.below)) | refine zoS (fun _ => ?_) (fun _ => ?_) | refine zqS (fun _ => ?_) (fun _ => ?_) | refine zwS (fun _ => ?_) (fun _ => ?_))
    exact fun w' hw => ⟨rfl, hw.below⟩
  have hq : textS (trms ps) = joinC 59 ((trms ps).map partT) := by
    unfold textS
    rw [hrt, if_pos rfl, if_neg fun h => hne (by have := congrArg List.length h; rw [List.length_map] at this; exact this)]
  rw [hq]
  have hb0 : ((ps.length : Int) == 0) = false := beq_eq_false_iff_ne.2 (by omega)
  repeat' (first | refine aw_seq ?_ | refine zz ?_ | refine zon fun _ => ?_ | refine zoa fun vr lr hr => ?_ | ((first | apply ao_call | apply aq_call); exact wants_a; (first | exact oc_func rfl | exact oc_clos rfl rfl); (exact rfl); (first | exact fun w hw => hrg w hw.below)) | refine zoS (fun _ => ?_) (fun _ => ?_) | refine zqS (fun _ => ?_) (fun _ => ?_) | refine zwS (fun _ => ?_) (fun _ => ?_))
  refine aw_for (t0 := [(3, .slice (some ⟨_, 0, none⟩) ps.length ps.length), (15, .slice a ps.length cp), (16, I ps.length), (17, I (0 : Nat))]) (fun q t H => ∃ (b i : Nat) (cs : List Value), q = ps.length - i ∧ i ≤ ps.length ∧ cs.length = ps.length ∧ cs.take i = (((trms ps).map partT).take i).flatMap cellsS ∧ t = [(3, .slice (some ⟨b, 0, none⟩) ps.length ps.length), (15, .slice a ps.length cp), (16, I ps.length), (17, I i)] ∧ H = [(b, .cells cs.toArray 9 (0, 0))]) ⟨_, 0, _, rfl, by omega, List.length_replicate, rfl, rfl, rfl⟩ (by repeat (first | exact sub_nil | refine sub_cons rfl ?_)) ?_
  rintro q t H ⟨b, i, cs, rfl, hi, hcl, htk, rfl, rfl⟩
  by_cases hlt : i < ps.length
  · obtain ⟨⟨u, op, vs⟩, he⟩ := getI hlt
    have hm := List.mem_of_getElem? he
    have hcv : CapV u := hcp _ hm
    obtain ⟨ua, uc, hus, -⟩ := OldRow.cells cellsS_len (hv.2 _ hm)
    simp only at hus
    subst hus
    have hcc : vs.length ≤ uc := hcv _ _ _ rfl
    obtain ⟨g, o, rfl, hg, hc⟩ := hat i _ (i : Int) he rfl
    have cA : ∀ (j : Nat) x, [I op, .slice ua vs.length uc][j]? = some x → w.cell? ⟨g, o + (i : Int).toNat * 2 + j, none⟩ = some x := hc
    have htb := hall _ (term_mem he)
    have hop : 0 ≤ op ∧ op ≤ 7 := by
      have := htb
      unfold termB at this
      simp only [Bool.and_eq_true, decide_eq_true_eq] at this
      exact this.1
    have hwd := words_at hop
    obtain ⟨hv8, hvr⟩ := term_vals htb
    have hpt : ((trms ps).map partT)[i]? = some (partT (op, vs)) := by rw [List.getElem?_map, trm_at he]; rfl
    have hsn : ((trms ps).map partT).take (i + 1) = ((trms ps).map partT).take i ++ [partT (op, vs)] := by rw [List.take_add_one, hpt]; rfl
    have hjl : (joinC 44 vs).length ≤ 8 * 25 := by
      have := join_len 44 24 (xs := vs) fun x hx => right_len (hvr x hx)
      have := Nat.mul_le_mul_right (24 + 1) hv8
      omega
    have hol := op_len op
    have e0 : (cs.set (0 + (i : Int).toNat * 1) (S (opN op)))[0 + (i : Int).toNat * 1]? = some (S (opN op)) := by rw [List.getElem?_set_self (by omega)]
    have hsl : (cs.set (0 + (i : Int).toNat * 1) (S (opN op))).length = ps.length := by rw [List.length_set]; exact hcl
    by_cases hv0 : vs = []
    · subst hv0
      have hgt : decide (0 < (([] : List Nm).length : Int)) = false := rfl
      have hp : partT (op, []) = opN op := by simp [partT]
      repeat' (first | refine aw_seq ?_ | ((first | apply ao_val | apply aq_val); exact wants_a; (first | exact ov_load_oa rfl hg cA rfl | exact ov_load_g rfl hG rfl hwd | exact ov_a); (exact rfl)) | refine zy ?_ | refine zon fun _ => ?_ | refine zoa fun vr lr hr => ?_ | refine zoS (fun _ => ?_) (fun _ => ?_) | refine zqS (fun _ => ?_) (fun _ => ?_) | refine zwS (fun _ => ?_) (fun _ => ?_))
      exact lq_normal' ⟨b, i + 1, cs.set (0 + (i : Int).toNat * 1) (S (opN op)), rfl, by omega, by rw [List.length_set]; exact hcl, by rw [hsn, hp, show 0 + (i : Int).toNat * 1 = i by omega]; exact take_snocS htk (by omega), rfl, rfl⟩ (by omega) (by repeat (first | exact sub_nil | refine sub_cons rfl ?_)) hsub_a
    · have h1 : 1 ≤ vs.length := by
        have := List.length_pos_iff.2 hv0
        omega
      have hgt : decide (0 < (vs.length : Int)) = true := decide_eq_true (by omega)
      have hp : partT (op, vs) = opN op ++ ([58] ++ joinC 44 vs) := by unfold partT; rw [if_neg hv0]; rfl
      have hjn := fun w' (hb : Below w.heap.size w w') => join_ok ua uc 44 vs w' ((hv.2 _ hm).below hb) hcc h1 (by omega) (by omega)
      generalize joinC 44 vs = jn at hjl hp hjn
      repeat' (first | (apply ao_nilh; exact hsub_a) | apply ao_nil | apply aq_nil | apply ah_end | ((first | apply ao_val | apply aq_val | (apply ah_take; (exact rfl))); exact wants_a; (first | exact ov_load_oa rfl hg cA rfl | exact ov_load_g rfl hG rfl hwd | exact ov_a); (exact rfl)) | ((first | apply ao_skip | apply aq_skip | (apply ah_skip; (exact rfl))); exact nots_a; (exact rfl)) | (refine ao_is ?_; first | (apply ao_new; exact wants_a; exact on_a; (exact rfl); intro _) | (apply ao_store; exact wants_a; exact ow_a; exact upd_a) | (apply ao_valw; exact wants_a; exact ox_a; (exact rfl); exact upd_a) | (apply ao_skip0; exact nots_a) | (apply ao_append; exact wants_a; (exact rfl); assumption; (exact rfl); exact cut_a; exact has_a; (exact rfl); (exact rfl); omega; omega; omega; (exact rfl); intro vr lr hr)) | ((first | apply ao_call | apply aq_call); exact wants_a; (first | exact oc_func rfl | exact oc_clos rfl rfl); (exact rfl); (first | exact fun w hw => hjn w hw.below)) | (apply ah_one; (exact rfl)) | (apply ah_two; (exact rfl); (exact rfl)) | (apply ah_three; (exact rfl); (exact rfl); (exact rfl)) | (refine aw_is ?_; first | (apply aw_held (id := 11) (pl := (.t 0 (.t 1 (.t 2 (.t 4 (.t 5 (.w 3 (.o 6 (.t 7 (.t 8 (.t 9 (.o 10 .e))))) 6 (.t 7 (.o 3 (.t 8 (.t 9 (.o 10 .e)))))))))))); (kernel_rfl); (kernel_rfl); (kernel_rfl); (solve | (apply hs_keep; apply hs_skip; exact List.Sublist.refl _))) | refine aw_seq ?_ | refine aw_block ?_ | refine aw_region ?_ | refine aw_skip ?_ | refine aw_exit ?_ | refine aw_ret ?_ | refine aw_label ?_ | refine aw_scope ?_ | refine aw_cond_t rfl (by with_reducible rfl) ?_ | refine aw_cond_f rfl (by with_reducible rfl) ?_ | refine aw_draw (by kernel_rfl) (by kernel_rfl) ?_) | (first | (refine ah_is ?_; (fail_if_success first | refine ah_glit (b := true) rfl rfl rfl (by with_reducible rfl) ?_ | refine ah_glit (b := false) rfl rfl rfl (by with_reducible rfl) ?_); apply ah_gt; (exact rfl); (exact rfl); (exact rfl); exact t_a) | ((refine ao_is ?_; (fail_if_success first | refine ao_glit (b := true) rfl rfl (by with_reducible rfl) ?_ | refine ao_glit (b := false) rfl rfl (by with_reducible rfl) ?_)); apply ao_gt; (exact rfl); (exact rfl); exact t_a) | ((refine aq_is ?_; (fail_if_success first | refine aq_glit (b := true) rfl rfl (by with_reducible rfl) ?_ | refine aq_glit (b := false) rfl rfl (by with_reducible rfl) ?_)); apply aq_gt; (exact rfl); (exact rfl); exact t_a) | (apply aw_ct; (exact rfl); exact t_a)) | (first | (refine ah_is ?_; (fail_if_success first | refine ah_glit (b := true) rfl rfl rfl (by with_reducible rfl) ?_ | refine ah_glit (b := false) rfl rfl rfl (by with_reducible rfl) ?_); apply ah_gf; (exact rfl); (exact rfl); (exact rfl); exact f_a) | ((refine ao_is ?_; (fail_if_success first | refine ao_glit (b := true) rfl rfl (by with_reducible rfl) ?_ | refine ao_glit (b := false) rfl rfl (by with_reducible rfl) ?_)); apply ao_gf; (exact rfl); (exact rfl); exact f_a) | ((refine aq_is ?_; (fail_if_success first | refine aq_glit (b := true) rfl rfl (by with_reducible rfl) ?_ | refine aq_glit (b := false) rfl rfl (by with_reducible rfl) ?_)); apply aq_gf; (exact rfl); (exact rfl); exact f_a) | (apply aw_cf; (exact rfl); exact f_a)) | refine at_normal ?_ | refine at_exit ?_ | refine at_ret ?_ | refine ib_normal ?_ | refine ib_exit ?_ | refine ib_other ?_ | refine ib_ret ?_ | refine lq_exit ?_ | refine lq_ret ?_ | refine ci_ret ?_ | refine ci_exit ?_ | refine r1_ret rfl ?_ | refine r1_normal rfl ?_ | refine r2_ret rfl rfl ?_ | refine r2_normal rfl rfl ?_ | refine r3_ret rfl rfl rfl ?_ | refine r3_normal rfl rfl rfl ?_ | refine ng_normal ?_ | refine ng_exit ?_ | refine ng_ret ?_ | (apply rt_ret; (exact rfl); (exact rfl); (exact rfl); exact has_a; exact has_a; (exact rfl); (exact rfl)) | (apply rc1_ret; (exact rfl); exact has_a; (exact rfl)) | (apply rc2_ret; (exact rfl); exact has_a; (exact rfl); (exact rfl)) | (refine ao_is ?_; (fail_if_success first | refine ao_glit (b := true) rfl rfl (by with_reducible rfl) ?_ | refine ao_glit (b := false) rfl rfl (by with_reducible rfl) ?_); refine ao_gbool rfl rfl (fun _ => ?_) (fun _ => ?_)) | (refine aq_is ?_; (fail_if_success first | refine aq_glit (b := true) rfl rfl (by with_reducible rfl) ?_ | refine aq_glit (b := false) rfl rfl (by with_reducible rfl) ?_); refine aq_gbool rfl rfl (fun _ => ?_) (fun _ => ?_)) | (refine aw_is ?_; refine aw_cond rfl (fun _ => ?_) (fun _ => ?_)))
      all_goals exact lq_normal' ⟨b, i + 1, (cs.set (0 + (i : Int).toNat * 1) (S (opN op))).set (0 + (i : Int).toNat * 1) (S (opN op ++ ([58] ++ jn))), rfl, by omega, by rw [List.length_set]; exact hsl, by rw [set_twice, hsn, hp, show 0 + (i : Int).toNat * 1 = i by omega]; exact take_snocS htk (by omega), rfl, rfl⟩ (by omega) (by repeat (first | exact sub_nil | refine sub_cons rfl ?_)) hsub_a
  · obtain rfl : i = ps.length := by omega
    have hml : ((trms ps).map partT).length = ps.length := by rw [List.length_map, List.length_map]
    rw [← hml, List.take_length] at htk
    have hrow : RowB 9 1 (.slice (some ⟨b, 0, none⟩) ((trms ps).map partT).length ps.length) [(b, .cells cs.toArray 9 (0, 0))] ((trms ps).map partT).length (((trms ps).map partT).flatMap cellsS) :=
      ⟨by rw [sl_flat, Nat.mul_one], .inr ⟨b, ps.length, cs.toArray, rfl, rfl, by omega, by simp [hcl], by simpa using htk⟩⟩
    have hjn : ∀ w', OldRow w' 1 (.slice (some ⟨b, 0, none⟩) ps.length ps.length) ps.length (((trms ps).map partT).flatMap cellsS) → Calls Tryd.prog 24 #[.slice (some ⟨b, 0, none⟩) ps.length ps.length, S [59]] w' fun e w'' => e = .returned (S (joinC 59 ((trms ps).map partT))) ∧ Below w'.heap.size w' w'' := fun w' h => by
      have := join_ok (some ⟨b, 0, none⟩) ps.length 59 ((trms ps).map partT) w' (by unfold TxtAt; rw [hml]; exact h) (by omega) (by omega) (by omega) (by
        have := join_len 59 212 (xs := (trms ps).map partT) fun y hy => by
          obtain ⟨t, ht, rfl⟩ := List.mem_map.1 hy
          obtain ⟨q1, q2⟩ := term_vals (hall t ht)
          exact part_len t.1 (fun v hv => right_len (q2 v hv)) q1
        have := Nat.mul_le_mul_right (212 + 1) (show ((trms ps).map partT).length ≤ 8 by omega)
        omega)
      rw [hml] at this
      exact this
    rw [hml] at hrow
    repeat' (first | refine aw_seq ?_ | refine zz ?_ | refine zon fun _ => ?_ | refine zoa fun vr lr hr => ?_ | ((first | apply ao_call | apply aq_call); exact wants_a; (first | exact oc_func rfl | exact oc_clos rfl rfl); (exact rfl); (first | exact fun w hw => hjn w (hw.oldr hrow cut_a))) | refine zoS (fun _ => ?_) (fun _ => ?_) | refine zqS (fun _ => ?_) (fun _ => ?_) | refine zwS (fun _ => ?_) (fun _ => ?_))
    exact fun w' hw => ⟨rfl, hw.below⟩
end Scp
end Go.Proofs.YtlokhemlpmalaaaDoor
