/- The document's answer for layer 11 in the own heap: Move; conditions: at most 200 nodes. -/
import Derived.Test.YtonhfddklkbnbaaTrp
namespace Go.Proofs.Ytonhfddklkbnbaa
namespace Trt
open Go Go.RowKit Sx
attribute [local irreducible] Go.Calls

theorem setP_take (t : Tr) (n p : Nm) {i : Nat} {e : Nm × Nm} (he : t[i]? = some e) : setP (t.take (i + 1)) n p = setP (t.take i) n p ++ [if e.1 = n then (n, p) else e] := by
  unfold setP
  rw [List.take_add_one, he, List.map_append]
  rfl
theorem setP_len (t : Tr) (n p : Nm) : (setP t n p).length = t.length := List.length_map _
theorem setP_at {t : Tr} {n p : Nm} {i : Nat} {x y : Nm} (he : t[i]? = some (x, y)) : (setP t n p)[i]? = some (x, if x = n then p else y) := by
  unfold setP
  rw [List.getElem?_map, he]
  simp only [Option.map_some]
  by_cases h : x = n
  · rw [if_pos h, if_pos h, h]
  · rw [if_neg h, if_neg h]
theorem long_iff (t : Tr) (s : Nm) : 8 < (pathN t 17 s).length ↔ 8 < (pathT t s).length := by
  unfold pathT
  rw [pathN_take t 9 17 s (by omega), List.length_take]
  omega
set_option maxHeartbeats 32000000 in
theorem rmove_ok {m : Nat} {w0 : World} {g : Nat} {t : Tr} {l : Hp} (h : RTr g t l) (hw : WfT t) (h0 : 0 < t.length) (hl : t.length ≤ 200) (n p : Nm) (R : Hp) :
    CallsH Try.prog ⟨w0.heap.size, w0, m⟩ 30 [.pointer (some ⟨g, 0, none⟩), S n, S p] (l ++ R) (RDid g (moveT t n p) R) := by
  obtain ⟨v, lN, rfl, hN⟩ := h
  rw [List.cons_append]
  refine callsH1p (args := [.pointer (some ⟨g, 0, none⟩), S n, S p]) Try.func30 rfl rfl rfl rfl ?_
  have same : ∀ er : Int, RDid g (er, t) R (I er) ((g, .cells #[v] 65 (0, 0)) :: (lN ++ R)) := fun er => ⟨rfl, _, by rw [← List.cons_append], v, lN, rfl, hN⟩
  have hh := fun w' (h : TAt w' g t v) => rhas_ok h (by omega) n
  have hq := fun w' (h : TAt w' g t v) => rhas_ok h (by omega) p
  have hpa := fun w' (h : TAt w' g t v) (hk : (pathT t p).length ≤ 8) => rpath_ok h (by omega) 9 (by omega) p (by unfold pathT at hk; omega)
  unfold moveT
  cases hx2 : hasT t n
  · rw [if_pos (.inl rfl)]
    rw [hx2] at hh
    repeat' (first | refine aw_seq ?_ | ((first | apply ao_val | apply aq_val); exact wants_a; (first | exact ov_nilcheck rfl | exact ov_a); (exact rfl)) | refine zy ?_ | refine zon fun _ => ?_ | refine zoa fun vr lr hr => ?_ | ((first | apply ao_call | apply aq_call); exact wants_a; (first | exact oc_func rfl | exact oc_clos rfl rfl | exact oc_bnd rfl rfl); (exact rfl); (first | exact fun w hw => hh w (tAt_of hw has_a hN cut_a))) | refine zoS (fun _ => ?_) (fun _ => ?_) | refine zqS (fun _ => ?_) (fun _ => ?_) | refine zwS (fun _ => ?_) (fun _ => ?_))
    exact ⟨_, _, hsub_a, List.Perm.refl _, same 4⟩
  rw [hx2] at hh
  cases hx3 : hasT t p
  · rw [if_pos (.inr rfl)]
    rw [hx3] at hq
    repeat' (first | refine aw_seq ?_ | ((first | apply ao_val | apply aq_val); exact wants_a; (first | exact ov_nilcheck rfl | exact ov_a); (exact rfl)) | refine zy ?_ | refine zon fun _ => ?_ | refine zoa fun vr lr hr => ?_ | ((first | apply ao_call | apply aq_call); exact wants_a; (first | exact oc_func rfl | exact oc_clos rfl rfl | exact oc_bnd rfl rfl); (exact rfl); (first | exact fun w hw => hh w (tAt_of hw has_a hN cut_a) | exact fun w hw => hq w (tAt_of hw has_a hN cut_a))) | refine zoS (fun _ => ?_) (fun _ => ?_) | refine zqS (fun _ => ?_) (fun _ => ?_) | refine zwS (fun _ => ?_) (fun _ => ?_))
    exact ⟨_, _, hsub_a, List.Perm.refl _, same 4⟩
  rw [hx3] at hq
  rw [if_neg (by simp)]
  by_cases hrt : n = rootN
  · rw [if_pos hrt]
    subst hrt
    repeat' (first | refine aw_seq ?_ | ((first | apply ao_val | apply aq_val); exact wants_a; (first | exact ov_nilcheck rfl | exact ov_a); (exact rfl)) | refine zy ?_ | refine zon fun _ => ?_ | refine zoa fun vr lr hr => ?_ | ((first | apply ao_call | apply aq_call); exact wants_a; (first | exact oc_func rfl | exact oc_clos rfl rfl | exact oc_bnd rfl rfl); (exact rfl); (first | exact fun w hw => hh w (tAt_of hw has_a hN cut_a) | exact fun w hw => hq w (tAt_of hw has_a hN cut_a))) | refine zoS (fun _ => ?_) (fun _ => ?_) | refine zqS (fun _ => ?_) (fun _ => ?_) | refine zwS (fun _ => ?_) (fun _ => ?_))
    exact ⟨_, _, hsub_a, List.Perm.refl _, same 1⟩
  rw [if_neg hrt]
  have er : (n == rootN) = false := beq_eq_false_iff_ne.2 hrt
  have hp8 : (pathT t p).length ≤ 8 := by
    obtain ⟨e, he, rfl⟩ := has_iff.1 hx3
    exact hw.deep e he
  have hend := fun hc => hw.set_end hx2 hx3 hc 8
  have hpa2 := fun w' h => hpa w' h hp8
  obtain ⟨L, hL⟩ : ∃ L, pathT t p = L := ⟨_, rfl⟩
  rw [show pathN t 9 p = L from hL] at hpa2
  rw [hL] at hp8 hend ⊢
  clear hpa
  by_cases hcy : n ∈ L
  · rw [if_pos hcy]
    have hin := fun v w' (hv : OldRow w' 1 v L.length (L.flatMap cells1)) => rin_ok L (by omega) n v w' hv
    rw [decide_eq_true hcy] at hin
    repeat' (first | refine aw_seq ?_ | ((first | apply ao_val | apply aq_val); exact wants_a; (first | exact ov_nilcheck rfl | exact ov_a); (exact rfl)) | refine zy ?_ | refine zon fun _ => ?_ | refine zoa fun vr lr hr => ?_ | ((first | apply ao_call | apply aq_call); exact wants_a; (first | exact oc_func rfl | exact oc_clos rfl rfl | exact oc_bnd rfl rfl); (exact rfl); (first | exact fun w hw => hh w (tAt_of hw has_a hN cut_a) | exact fun w hw => hq w (tAt_of hw has_a hN cut_a) | exact fun w hw => hin _ w (hw.oldr hr cut_a))) | (apply ao_callr; exact wants_a; (exact oc_func rfl); (exact rfl); (first | exact fun w hw => hpa2 w (tAt_of hw has_a hN cut_a)); intro vr lr hr) | refine zoS (fun _ => ?_) (fun _ => ?_) | refine zqS (fun _ => ?_) (fun _ => ?_) | refine zwS (fun _ => ?_) (fun _ => ?_))
    exact ⟨_, _, hsub_a, List.Perm.refl _, same 8⟩
  rw [if_neg hcy]
  have hin := fun v w' (hv : OldRow w' 1 v L.length (L.flatMap cells1)) => rin_ok L (by omega) n v w' hv
  rw [decide_eq_false hcy] at hin
  have hend := fun e he => hend hcy e he (hw.deep e he)
  obtain ⟨gN, capN, csN, rfl, rfl, hcap, hlen, htk, hcell⟩ := openB cells2_len hN h0
  repeat' (first | refine aw_seq ?_ | ((first | apply ao_val | apply aq_val); exact wants_a; (first | exact ov_nilcheck rfl | exact ov_a); (exact rfl)) | refine zy ?_ | refine zon fun _ => ?_ | refine zoa fun vr lr hr => ?_ | ((first | apply ao_call | apply aq_call); exact wants_a; (first | exact oc_func rfl | exact oc_clos rfl rfl | exact oc_bnd rfl rfl); (exact rfl); (first | exact fun w hw => hh w (tAt_of hw has_a hN cut_a) | exact fun w hw => hq w (tAt_of hw has_a hN cut_a) | exact fun w hw => hin _ w (hw.oldr hr cut_a))) | (apply ao_callr; exact wants_a; (exact oc_func rfl); (exact rfl); (first | exact fun w hw => hpa2 w (tAt_of hw has_a hN cut_a)); intro vr lr hr) | refine zoS (fun _ => ?_) (fun _ => ?_) | refine zqS (fun _ => ?_) (fun _ => ?_) | refine zwS (fun _ => ?_) (fun _ => ?_))
  rename_i b8
  clear hh hq hpa2 hin
  refine aw_forH (t0 := [(0, .pointer (some ⟨g, 0, none⟩)), (1, S n), (2, S p), (8, .pointer (some ⟨b8, 0, none⟩)), (9, I (0 : Nat))]) (fun q tm H => ∃ (i : Nat) (v5 : Value) (l5 : Hp), q = t.length - i ∧ i ≤ t.length ∧ RowB 62 2 v5 l5 (setP (t.take i) n p).length ((setP (t.take i) n p).flatMap cells2) ∧ tm = [(0, .pointer (some ⟨g, 0, none⟩)), (1, S n), (2, S p), (8, .pointer (some ⟨b8, 0, none⟩)), (9, I i)] ∧ H.Perm ((b8, .cells #[v5] 65 (0, 0)) :: (l5 ++ ((g, .cells #[.slice (some ⟨gN, 0, none⟩) t.length capN] 65 (0, 0)) :: ((gN, .cells csN.toArray 62 (0, 0)) :: R)))))
    ⟨0, .slice none 0 0, [], rfl, by omega, RowB.nil, rfl, List.Perm.refl _⟩ (by repeat (first | exact sub_nil | refine sub_cons rfl ?_)) hsub_a ?_
  rintro q tm H ⟨i, v5, l5, rfl, hi, r5, rfl, hp⟩
  refine aw_permH hp ?_
  clear hp
  obtain ⟨a5, c5, hv5⟩ := r5.len
  subst hv5
  have hlo : (setP (t.take i) n p).length ≤ i := by rw [setP_len]; exact List.length_take_le _ _
  have hfo := flat2 (setP (t.take i) n p)
  by_cases hlt : i < t.length
  · obtain ⟨⟨x, y⟩, he⟩ := getP hlt
    have slX : sl (0 + (i : Int).toNat * 2) 2 csN = some [S x, S y] := sl_of (vs := cells2 (x, y)) (.inl (Nat.zero_lt_succ _)) fun j y hj => hcell i _ (i : Int) j y he rfl hj
    have hnx := setP_take t n p he
    simp only at hnx
    by_cases hk : x = n
    · rw [if_pos hk] at hnx
      subst hk
      have ek : (x == x) = true := beq_self_eq_true _
      repeat' (first | (apply ao_nilh; exact hsub_a) | apply ao_nil | apply aq_nil | apply ah_end | ((first | apply ao_val | apply aq_val | (apply ah_take; (exact rfl))); exact wants_a; (first | exact ov_nilcheck rfl | exact ov_a); (exact rfl)) | ((first | apply ao_skip | apply aq_skip | (apply ah_skip; (exact rfl))); exact nots_a; (exact rfl)) | (refine ao_is ?_; first | (apply ao_new; exact wants_a; exact on_a; (exact rfl); intro _) | (apply ao_store; exact wants_a; exact ow_a; exact upd_a) | (apply ao_valw; exact wants_a; exact ox_a; (exact rfl); exact upd_a) | (apply ao_skip0; exact nots_a) | (apply ao_append; exact wants_a; (exact rfl); assumption; (exact rfl); exact cut_a; exact has_a; (exact rfl); (exact rfl); omega; omega; omega; (exact rfl); intro vr lr hr)) | (apply ah_one; (exact rfl)) | (apply ah_two; (exact rfl); (exact rfl)) | (apply ah_three; (exact rfl); (exact rfl); (exact rfl)) | (refine aw_is ?_; first | (apply aw_held (id := 15) (pl := (.t 0 (.t 1 (.t 2 (.t 3 (.t 5 (.w 4 (.o 6 (.o 7 (.t 8 (.t 9 (.o 10 .e))))) 6 (.o 4 (.o 7 (.t 8 (.t 9 (.o 10 .e)))))))))))); (kernel_rfl); (kernel_rfl); (kernel_rfl); (solve | (apply hs_keep; apply hs_skip; apply hs_app0; apply hs_keep; apply hs_keep; exact List.Sublist.refl _))) | refine aw_seq ?_ | refine aw_block ?_ | refine aw_region ?_ | refine aw_skip ?_ | refine aw_exit ?_ | refine aw_ret ?_ | refine aw_label ?_ | refine aw_scope ?_ | refine aw_cond_t rfl (by with_reducible rfl) ?_ | refine aw_cond_f rfl (by with_reducible rfl) ?_ | refine aw_draw (by kernel_rfl) (by kernel_rfl) ?_) | (first | (refine ah_is ?_; (fail_if_success first | refine ah_glit (b := true) rfl rfl rfl (by with_reducible rfl) ?_ | refine ah_glit (b := false) rfl rfl rfl (by with_reducible rfl) ?_); apply ah_gt; (exact rfl); (exact rfl); (exact rfl); exact t_a) | ((refine ao_is ?_; (fail_if_success first | refine ao_glit (b := true) rfl rfl (by with_reducible rfl) ?_ | refine ao_glit (b := false) rfl rfl (by with_reducible rfl) ?_)); apply ao_gt; (exact rfl); (exact rfl); exact t_a) | ((refine aq_is ?_; (fail_if_success first | refine aq_glit (b := true) rfl rfl (by with_reducible rfl) ?_ | refine aq_glit (b := false) rfl rfl (by with_reducible rfl) ?_)); apply aq_gt; (exact rfl); (exact rfl); exact t_a) | (apply aw_ct; (exact rfl); exact t_a)) | (first | (refine ah_is ?_; (fail_if_success first | refine ah_glit (b := true) rfl rfl rfl (by with_reducible rfl) ?_ | refine ah_glit (b := false) rfl rfl rfl (by with_reducible rfl) ?_); apply ah_gf; (exact rfl); (exact rfl); (exact rfl); exact f_a) | ((refine ao_is ?_; (fail_if_success first | refine ao_glit (b := true) rfl rfl (by with_reducible rfl) ?_ | refine ao_glit (b := false) rfl rfl (by with_reducible rfl) ?_)); apply ao_gf; (exact rfl); (exact rfl); exact f_a) | ((refine aq_is ?_; (fail_if_success first | refine aq_glit (b := true) rfl rfl (by with_reducible rfl) ?_ | refine aq_glit (b := false) rfl rfl (by with_reducible rfl) ?_)); apply aq_gf; (exact rfl); (exact rfl); exact f_a) | (apply aw_cf; (exact rfl); exact f_a)) | refine at_normal ?_ | refine at_exit ?_ | refine at_ret ?_ | refine ib_normal ?_ | refine ib_exit ?_ | refine ib_other ?_ | refine ib_ret ?_ | refine lq_exit ?_ | refine lq_ret ?_ | refine ci_ret ?_ | refine ci_exit ?_ | refine r1_ret rfl ?_ | refine r1_normal rfl ?_ | refine r2_ret rfl rfl ?_ | refine r2_normal rfl rfl ?_ | refine r3_ret rfl rfl rfl ?_ | refine r3_normal rfl rfl rfl ?_ | refine ng_normal ?_ | refine ng_exit ?_ | refine ng_ret ?_ | (apply rt_ret; (exact rfl); (exact rfl); (exact rfl); exact has_a; exact has_a; (exact rfl); (exact rfl)) | (apply rc1_ret; (exact rfl); exact has_a; (exact rfl)) | (apply rc2_ret; (exact rfl); exact has_a; (exact rfl); (exact rfl)) | (refine ao_is ?_; (fail_if_success first | refine ao_glit (b := true) rfl rfl (by with_reducible rfl) ?_ | refine ao_glit (b := false) rfl rfl (by with_reducible rfl) ?_); refine ao_gbool rfl rfl (fun _ => ?_) (fun _ => ?_)) | (refine aq_is ?_; (fail_if_success first | refine aq_glit (b := true) rfl rfl (by with_reducible rfl) ?_ | refine aq_glit (b := false) rfl rfl (by with_reducible rfl) ?_); refine aq_gbool rfl rfl (fun _ => ?_) (fun _ => ?_)) | (refine aw_is ?_; refine aw_cond rfl (fun _ => ?_) (fun _ => ?_)))
      all_goals revert vr lr hr
      all_goals intro v1 l1 hrow
      all_goals obtain ⟨x1, y1, hx1⟩ := hrow.len
      all_goals subst hx1
      repeat' (first | (apply ao_nilh; exact hsub_a) | apply ao_nil | apply aq_nil | apply ah_end | ((first | apply ao_val | apply aq_val | (apply ah_take; (exact rfl))); exact wants_a; (first | exact ov_nilcheck rfl | exact ov_a); (exact rfl)) | ((first | apply ao_skip | apply aq_skip | (apply ah_skip; (exact rfl))); exact nots_a; (exact rfl)) | (refine ao_is ?_; first | (apply ao_new; exact wants_a; exact on_a; (exact rfl); intro _) | (apply ao_store; exact wants_a; exact ow_a; exact upd_a) | (apply ao_valw; exact wants_a; exact ox_a; (exact rfl); exact upd_a) | (apply ao_skip0; exact nots_a) | (apply ao_append; exact wants_a; (exact rfl); assumption; (exact rfl); exact cut_a; exact has_a; (exact rfl); (exact rfl); omega; omega; omega; (exact rfl); intro vr lr hr)) | (apply ah_one; (exact rfl)) | (apply ah_two; (exact rfl); (exact rfl)) | (apply ah_three; (exact rfl); (exact rfl); (exact rfl)) | (refine aw_is ?_; first | (apply aw_held (id := 15) (pl := (.t 0 (.t 1 (.t 2 (.t 3 (.t 5 (.w 4 (.o 6 (.o 7 (.t 8 (.t 9 (.o 10 .e))))) 6 (.o 4 (.o 7 (.t 8 (.t 9 (.o 10 .e)))))))))))); (kernel_rfl); (kernel_rfl); (kernel_rfl); (solve | (apply hs_keep; apply hs_skip; apply hs_app0; apply hs_keep; apply hs_keep; exact List.Sublist.refl _))) | refine aw_seq ?_ | refine aw_block ?_ | refine aw_region ?_ | refine aw_skip ?_ | refine aw_exit ?_ | refine aw_ret ?_ | refine aw_label ?_ | refine aw_scope ?_ | refine aw_cond_t rfl (by with_reducible rfl) ?_ | refine aw_cond_f rfl (by with_reducible rfl) ?_ | refine aw_draw (by kernel_rfl) (by kernel_rfl) ?_) | (first | (refine ah_is ?_; (fail_if_success first | refine ah_glit (b := true) rfl rfl rfl (by with_reducible rfl) ?_ | refine ah_glit (b := false) rfl rfl rfl (by with_reducible rfl) ?_); apply ah_gt; (exact rfl); (exact rfl); (exact rfl); exact t_a) | ((refine ao_is ?_; (fail_if_success first | refine ao_glit (b := true) rfl rfl (by with_reducible rfl) ?_ | refine ao_glit (b := false) rfl rfl (by with_reducible rfl) ?_)); apply ao_gt; (exact rfl); (exact rfl); exact t_a) | ((refine aq_is ?_; (fail_if_success first | refine aq_glit (b := true) rfl rfl (by with_reducible rfl) ?_ | refine aq_glit (b := false) rfl rfl (by with_reducible rfl) ?_)); apply aq_gt; (exact rfl); (exact rfl); exact t_a) | (apply aw_ct; (exact rfl); exact t_a)) | (first | (refine ah_is ?_; (fail_if_success first | refine ah_glit (b := true) rfl rfl rfl (by with_reducible rfl) ?_ | refine ah_glit (b := false) rfl rfl rfl (by with_reducible rfl) ?_); apply ah_gf; (exact rfl); (exact rfl); (exact rfl); exact f_a) | ((refine ao_is ?_; (fail_if_success first | refine ao_glit (b := true) rfl rfl (by with_reducible rfl) ?_ | refine ao_glit (b := false) rfl rfl (by with_reducible rfl) ?_)); apply ao_gf; (exact rfl); (exact rfl); exact f_a) | ((refine aq_is ?_; (fail_if_success first | refine aq_glit (b := true) rfl rfl (by with_reducible rfl) ?_ | refine aq_glit (b := false) rfl rfl (by with_reducible rfl) ?_)); apply aq_gf; (exact rfl); (exact rfl); exact f_a) | (apply aw_cf; (exact rfl); exact f_a)) | refine at_normal ?_ | refine at_exit ?_ | refine at_ret ?_ | refine ib_normal ?_ | refine ib_exit ?_ | refine ib_other ?_ | refine ib_ret ?_ | refine lq_exit ?_ | refine lq_ret ?_ | refine ci_ret ?_ | refine ci_exit ?_ | refine r1_ret rfl ?_ | refine r1_normal rfl ?_ | refine r2_ret rfl rfl ?_ | refine r2_normal rfl rfl ?_ | refine r3_ret rfl rfl rfl ?_ | refine r3_normal rfl rfl rfl ?_ | refine ng_normal ?_ | refine ng_exit ?_ | refine ng_ret ?_ | (apply rt_ret; (exact rfl); (exact rfl); (exact rfl); exact has_a; exact has_a; (exact rfl); (exact rfl)) | (apply rc1_ret; (exact rfl); exact has_a; (exact rfl)) | (apply rc2_ret; (exact rfl); exact has_a; (exact rfl); (exact rfl)) | (refine ao_is ?_; (fail_if_success first | refine ao_glit (b := true) rfl rfl (by with_reducible rfl) ?_ | refine ao_glit (b := false) rfl rfl (by with_reducible rfl) ?_); refine ao_gbool rfl rfl (fun _ => ?_) (fun _ => ?_)) | (refine aq_is ?_; (fail_if_success first | refine aq_glit (b := true) rfl rfl (by with_reducible rfl) ?_ | refine aq_glit (b := false) rfl rfl (by with_reducible rfl) ?_); refine aq_gbool rfl rfl (fun _ => ?_) (fun _ => ?_)) | (refine aw_is ?_; refine aw_cond rfl (fun _ => ?_) (fun _ => ?_)))
      all_goals exact lq_normal' (H' := l1 ++ ((b8, .cells #[.slice x1 _ y1] 65 (0, 0)) :: ((g, .cells #[.slice (some ⟨gN, 0, none⟩) t.length capN] 65 (0, 0)) :: ((gN, .cells csN.toArray 62 (0, 0)) :: R)))) ⟨i + 1, _, _, rfl, by omega, by rw [hnx]; exact row2 hrow, rfl, List.perm_middle⟩ (by omega) (by repeat (first | exact sub_nil | refine sub_cons rfl ?_)) hsub_a
    · rw [if_neg hk] at hnx
      have ek : (x == n) = false := beq_eq_false_iff_ne.2 hk
      repeat' (first | (apply ao_nilh; exact hsub_a) | apply ao_nil | apply aq_nil | apply ah_end | ((first | apply ao_val | apply aq_val | (apply ah_take; (exact rfl))); exact wants_a; (first | exact ov_nilcheck rfl | exact ov_a); (exact rfl)) | ((first | apply ao_skip | apply aq_skip | (apply ah_skip; (exact rfl))); exact nots_a; (exact rfl)) | (refine ao_is ?_; first | (apply ao_new; exact wants_a; exact on_a; (exact rfl); intro _) | (apply ao_store; exact wants_a; exact ow_a; exact upd_a) | (apply ao_valw; exact wants_a; exact ox_a; (exact rfl); exact upd_a) | (apply ao_skip0; exact nots_a) | (apply ao_append; exact wants_a; (exact rfl); assumption; (exact rfl); exact cut_a; exact has_a; (exact rfl); (exact rfl); omega; omega; omega; (exact rfl); intro vr lr hr)) | (apply ah_one; (exact rfl)) | (apply ah_two; (exact rfl); (exact rfl)) | (apply ah_three; (exact rfl); (exact rfl); (exact rfl)) | (refine aw_is ?_; first | (apply aw_held (id := 15) (pl := (.t 0 (.t 1 (.t 2 (.t 3 (.t 5 (.w 4 (.o 6 (.o 7 (.t 8 (.t 9 (.o 10 .e))))) 6 (.o 4 (.o 7 (.t 8 (.t 9 (.o 10 .e)))))))))))); (kernel_rfl); (kernel_rfl); (kernel_rfl); (solve | (apply hs_keep; apply hs_skip; apply hs_app0; apply hs_keep; apply hs_keep; exact List.Sublist.refl _))) | refine aw_seq ?_ | refine aw_block ?_ | refine aw_region ?_ | refine aw_skip ?_ | refine aw_exit ?_ | refine aw_ret ?_ | refine aw_label ?_ | refine aw_scope ?_ | refine aw_cond_t rfl (by with_reducible rfl) ?_ | refine aw_cond_f rfl (by with_reducible rfl) ?_ | refine aw_draw (by kernel_rfl) (by kernel_rfl) ?_) | (first | (refine ah_is ?_; (fail_if_success first | refine ah_glit (b := true) rfl rfl rfl (by with_reducible rfl) ?_ | refine ah_glit (b := false) rfl rfl rfl (by with_reducible rfl) ?_); apply ah_gt; (exact rfl); (exact rfl); (exact rfl); exact t_a) | ((refine ao_is ?_; (fail_if_success first | refine ao_glit (b := true) rfl rfl (by with_reducible rfl) ?_ | refine ao_glit (b := false) rfl rfl (by with_reducible rfl) ?_)); apply ao_gt; (exact rfl); (exact rfl); exact t_a) | ((refine aq_is ?_; (fail_if_success first | refine aq_glit (b := true) rfl rfl (by with_reducible rfl) ?_ | refine aq_glit (b := false) rfl rfl (by with_reducible rfl) ?_)); apply aq_gt; (exact rfl); (exact rfl); exact t_a) | (apply aw_ct; (exact rfl); exact t_a)) | (first | (refine ah_is ?_; (fail_if_success first | refine ah_glit (b := true) rfl rfl rfl (by with_reducible rfl) ?_ | refine ah_glit (b := false) rfl rfl rfl (by with_reducible rfl) ?_); apply ah_gf; (exact rfl); (exact rfl); (exact rfl); exact f_a) | ((refine ao_is ?_; (fail_if_success first | refine ao_glit (b := true) rfl rfl (by with_reducible rfl) ?_ | refine ao_glit (b := false) rfl rfl (by with_reducible rfl) ?_)); apply ao_gf; (exact rfl); (exact rfl); exact f_a) | ((refine aq_is ?_; (fail_if_success first | refine aq_glit (b := true) rfl rfl (by with_reducible rfl) ?_ | refine aq_glit (b := false) rfl rfl (by with_reducible rfl) ?_)); apply aq_gf; (exact rfl); (exact rfl); exact f_a) | (apply aw_cf; (exact rfl); exact f_a)) | refine at_normal ?_ | refine at_exit ?_ | refine at_ret ?_ | refine ib_normal ?_ | refine ib_exit ?_ | refine ib_other ?_ | refine ib_ret ?_ | refine lq_exit ?_ | refine lq_ret ?_ | refine ci_ret ?_ | refine ci_exit ?_ | refine r1_ret rfl ?_ | refine r1_normal rfl ?_ | refine r2_ret rfl rfl ?_ | refine r2_normal rfl rfl ?_ | refine r3_ret rfl rfl rfl ?_ | refine r3_normal rfl rfl rfl ?_ | refine ng_normal ?_ | refine ng_exit ?_ | refine ng_ret ?_ | (apply rt_ret; (exact rfl); (exact rfl); (exact rfl); exact has_a; exact has_a; (exact rfl); (exact rfl)) | (apply rc1_ret; (exact rfl); exact has_a; (exact rfl)) | (apply rc2_ret; (exact rfl); exact has_a; (exact rfl); (exact rfl)) | (refine ao_is ?_; (fail_if_success first | refine ao_glit (b := true) rfl rfl (by with_reducible rfl) ?_ | refine ao_glit (b := false) rfl rfl (by with_reducible rfl) ?_); refine ao_gbool rfl rfl (fun _ => ?_) (fun _ => ?_)) | (refine aq_is ?_; (fail_if_success first | refine aq_glit (b := true) rfl rfl (by with_reducible rfl) ?_ | refine aq_glit (b := false) rfl rfl (by with_reducible rfl) ?_); refine aq_gbool rfl rfl (fun _ => ?_) (fun _ => ?_)) | (refine aw_is ?_; refine aw_cond rfl (fun _ => ?_) (fun _ => ?_)))
      all_goals revert vr lr hr
      all_goals intro v1 l1 hrow
      all_goals obtain ⟨x1, y1, hx1⟩ := hrow.len
      all_goals subst hx1
      repeat' (first | (apply ao_nilh; exact hsub_a) | apply ao_nil | apply aq_nil | apply ah_end | ((first | apply ao_val | apply aq_val | (apply ah_take; (exact rfl))); exact wants_a; (first | exact ov_nilcheck rfl | exact ov_a); (exact rfl)) | ((first | apply ao_skip | apply aq_skip | (apply ah_skip; (exact rfl))); exact nots_a; (exact rfl)) | (refine ao_is ?_; first | (apply ao_new; exact wants_a; exact on_a; (exact rfl); intro _) | (apply ao_store; exact wants_a; exact ow_a; exact upd_a) | (apply ao_valw; exact wants_a; exact ox_a; (exact rfl); exact upd_a) | (apply ao_skip0; exact nots_a) | (apply ao_append; exact wants_a; (exact rfl); assumption; (exact rfl); exact cut_a; exact has_a; (exact rfl); (exact rfl); omega; omega; omega; (exact rfl); intro vr lr hr)) | (apply ah_one; (exact rfl)) | (apply ah_two; (exact rfl); (exact rfl)) | (apply ah_three; (exact rfl); (exact rfl); (exact rfl)) | (refine aw_is ?_; first | (apply aw_held (id := 15) (pl := (.t 0 (.t 1 (.t 2 (.t 3 (.t 5 (.w 4 (.o 6 (.o 7 (.t 8 (.t 9 (.o 10 .e))))) 6 (.o 4 (.o 7 (.t 8 (.t 9 (.o 10 .e)))))))))))); (kernel_rfl); (kernel_rfl); (kernel_rfl); (solve | (apply hs_keep; apply hs_skip; apply hs_app0; apply hs_keep; apply hs_keep; exact List.Sublist.refl _))) | refine aw_seq ?_ | refine aw_block ?_ | refine aw_region ?_ | refine aw_skip ?_ | refine aw_exit ?_ | refine aw_ret ?_ | refine aw_label ?_ | refine aw_scope ?_ | refine aw_cond_t rfl (by with_reducible rfl) ?_ | refine aw_cond_f rfl (by with_reducible rfl) ?_ | refine aw_draw (by kernel_rfl) (by kernel_rfl) ?_) | (first | (refine ah_is ?_; (fail_if_success first | refine ah_glit (b := true) rfl rfl rfl (by with_reducible rfl) ?_ | refine ah_glit (b := false) rfl rfl rfl (by with_reducible rfl) ?_); apply ah_gt; (exact rfl); (exact rfl); (exact rfl); exact t_a) | ((refine ao_is ?_; (fail_if_success first | refine ao_glit (b := true) rfl rfl (by with_reducible rfl) ?_ | refine ao_glit (b := false) rfl rfl (by with_reducible rfl) ?_)); apply ao_gt; (exact rfl); (exact rfl); exact t_a) | ((refine aq_is ?_; (fail_if_success first | refine aq_glit (b := true) rfl rfl (by with_reducible rfl) ?_ | refine aq_glit (b := false) rfl rfl (by with_reducible rfl) ?_)); apply aq_gt; (exact rfl); (exact rfl); exact t_a) | (apply aw_ct; (exact rfl); exact t_a)) | (first | (refine ah_is ?_; (fail_if_success first | refine ah_glit (b := true) rfl rfl rfl (by with_reducible rfl) ?_ | refine ah_glit (b := false) rfl rfl rfl (by with_reducible rfl) ?_); apply ah_gf; (exact rfl); (exact rfl); (exact rfl); exact f_a) | ((refine ao_is ?_; (fail_if_success first | refine ao_glit (b := true) rfl rfl (by with_reducible rfl) ?_ | refine ao_glit (b := false) rfl rfl (by with_reducible rfl) ?_)); apply ao_gf; (exact rfl); (exact rfl); exact f_a) | ((refine aq_is ?_; (fail_if_success first | refine aq_glit (b := true) rfl rfl (by with_reducible rfl) ?_ | refine aq_glit (b := false) rfl rfl (by with_reducible rfl) ?_)); apply aq_gf; (exact rfl); (exact rfl); exact f_a) | (apply aw_cf; (exact rfl); exact f_a)) | refine at_normal ?_ | refine at_exit ?_ | refine at_ret ?_ | refine ib_normal ?_ | refine ib_exit ?_ | refine ib_other ?_ | refine ib_ret ?_ | refine lq_exit ?_ | refine lq_ret ?_ | refine ci_ret ?_ | refine ci_exit ?_ | refine r1_ret rfl ?_ | refine r1_normal rfl ?_ | refine r2_ret rfl rfl ?_ | refine r2_normal rfl rfl ?_ | refine r3_ret rfl rfl rfl ?_ | refine r3_normal rfl rfl rfl ?_ | refine ng_normal ?_ | refine ng_exit ?_ | refine ng_ret ?_ | (apply rt_ret; (exact rfl); (exact rfl); (exact rfl); exact has_a; exact has_a; (exact rfl); (exact rfl)) | (apply rc1_ret; (exact rfl); exact has_a; (exact rfl)) | (apply rc2_ret; (exact rfl); exact has_a; (exact rfl); (exact rfl)) | (refine ao_is ?_; (fail_if_success first | refine ao_glit (b := true) rfl rfl (by with_reducible rfl) ?_ | refine ao_glit (b := false) rfl rfl (by with_reducible rfl) ?_); refine ao_gbool rfl rfl (fun _ => ?_) (fun _ => ?_)) | (refine aq_is ?_; (fail_if_success first | refine aq_glit (b := true) rfl rfl (by with_reducible rfl) ?_ | refine aq_glit (b := false) rfl rfl (by with_reducible rfl) ?_); refine aq_gbool rfl rfl (fun _ => ?_) (fun _ => ?_)) | (refine aw_is ?_; refine aw_cond rfl (fun _ => ?_) (fun _ => ?_)))
      all_goals exact lq_normal' (H' := l1 ++ ((b8, .cells #[.slice x1 _ y1] 65 (0, 0)) :: ((g, .cells #[.slice (some ⟨gN, 0, none⟩) t.length capN] 65 (0, 0)) :: ((gN, .cells csN.toArray 62 (0, 0)) :: R)))) ⟨i + 1, _, _, rfl, by omega, by rw [hnx]; exact row2 hrow, rfl, List.perm_middle⟩ (by omega) (by repeat (first | exact sub_nil | refine sub_cons rfl ?_)) hsub_a
  · obtain rfl : i = t.length := by omega
    rw [List.take_length, setP_len] at hlo
    have e2l : (setP (t.take t.length) n p) = setP t n p := by rw [List.take_length]
    obtain ⟨T2, hT2⟩ : ∃ T2, setP t n p = T2 := ⟨_, rfl⟩
    have hlen2 : T2.length = t.length := by rw [← hT2, setP_len]
    rw [e2l, hT2] at r5
    rw [e2l, hT2]
    rw [hT2] at hend
    have hpt := fun w' (h : TAt w' b8 T2 (.slice a5 T2.length c5)) s (hs : (pathN T2 17 s).length < 17) => rpath_ok h (by omega) 17 (by omega) s hs
    obtain ⟨g5, cap5, cs5, hv5, rfl, -, -, -, hcell5⟩ := openB cells2_len r5 (by omega)
    cases hv5
    repeat' (first | refine aw_seq ?_ | ((first | apply ao_val | apply aq_val); exact wants_a; (first | exact ov_nilcheck rfl | exact ov_a); (exact rfl)) | refine zy ?_ | refine zon fun _ => ?_ | refine zoa fun vr lr hr => ?_ | refine zoS (fun _ => ?_) (fun _ => ?_) | refine zqS (fun _ => ?_) (fun _ => ?_) | refine zwS (fun _ => ?_) (fun _ => ?_))
    refine aw_forH (t0 := [(0, .pointer (some ⟨g, 0, none⟩)), (8, .pointer (some ⟨b8, 0, none⟩)), (11, I (0 : Nat))]) (fun q tm H => ∃ i : Nat, q = t.length - i ∧ i ≤ t.length ∧ (∀ (j : Nat) e, j < i → t[j]? = some e → ¬ 8 < (pathT T2 e.1).length) ∧ tm = [(0, .pointer (some ⟨g, 0, none⟩)), (8, .pointer (some ⟨b8, 0, none⟩)), (11, I i)] ∧ H = (b8, .cells #[.slice (some ⟨g5, 0, none⟩) T2.length c5] 65 (0, 0)) :: ((g5, .cells cs5.toArray 62 (0, 0)) :: ((g, .cells #[.slice (some ⟨gN, 0, none⟩) t.length capN] 65 (0, 0)) :: ((gN, .cells csN.toArray 62 (0, 0)) :: R))))
      ⟨0, rfl, by omega, fun j e hj => by omega, rfl, rfl⟩ (by repeat (first | exact sub_nil | refine sub_cons rfl ?_)) hsub_a ?_
    rintro q tm H ⟨i, rfl, hi, hall, rfl, rfl⟩
    by_cases hlt : i < t.length
    · obtain ⟨⟨x, y⟩, he⟩ := getP hlt
      have he2 := setP_at (n := n) (p := p) he
      rw [hT2] at he2
      have cX : cs5[0 + (i : Int).toNat * 2 + 0]? = some (S x) := hcell5 i _ (i : Int) 0 _ he2 rfl rfl
      have hx17 : (pathN T2 17 x).length ≤ 16 := hend _ (List.mem_of_getElem? he)
      have hli := long_iff T2 x
      have hpx := fun w' h => hpt w' h x (by omega)
      generalize pathN T2 17 x = P at hpx hli hx17
      by_cases h8 : 8 < P.length
      · have hany : (T2.any fun e => decide (8 < (pathT T2 e.1).length)) = true := by
          rw [List.any_eq_true]
          exact ⟨_, List.mem_of_getElem? he2, decide_eq_true (hli.1 h8)⟩
        rw [if_pos hany]
        repeat' (first | refine aw_seq ?_ | ((first | apply ao_val | apply aq_val); exact wants_a; (first | exact ov_nilcheck rfl | exact ov_lenr rfl (by assumption) | exact ov_a); (exact rfl)) | refine zy ?_ | refine zon fun _ => ?_ | refine zoa fun vr lr hr => ?_ | (apply ao_callr; exact wants_a; (exact oc_func rfl); (exact rfl); (first | exact fun w hw => hpx w (tAt_of hw has_a r5 cut_a)); intro vr lr hr) | refine zoS (fun _ => ?_) (fun _ => ?_) | refine zqS (fun _ => ?_) (fun _ => ?_) | refine zwS (fun _ => ?_) (fun _ => ?_))
        exact ⟨_, _, hsub_a, List.Perm.refl _, same 9⟩
      · repeat' (first | refine aw_seq ?_ | ((first | apply ao_val | apply aq_val); exact wants_a; (first | exact ov_nilcheck rfl | exact ov_lenr rfl (by assumption) | exact ov_a); (exact rfl)) | refine zy ?_ | refine zon fun _ => ?_ | refine zoa fun vr lr hr => ?_ | (apply ao_callr; exact wants_a; (exact oc_func rfl); (exact rfl); (first | exact fun w hw => hpx w (tAt_of hw has_a r5 cut_a)); intro vr lr hr) | refine zoS (fun _ => ?_) (fun _ => ?_) | refine zqS (fun _ => ?_) (fun _ => ?_) | refine zwS (fun _ => ?_) (fun _ => ?_))
        exact lq_normal' ⟨i + 1, rfl, by omega, fun j e hj hje => by
          by_cases e1 : j = i
          · subst e1; rw [he] at hje; cases hje; exact fun h => h8 (hli.2 h)
          · exact hall j e (by omega) hje, rfl, rfl⟩ (by omega) (by repeat (first | exact sub_nil | refine sub_cons rfl ?_)) hsub_a
    · obtain rfl : i = t.length := by omega
      have hany : ¬ (T2.any fun e => decide (8 < (pathT T2 e.1).length)) = true := by
        rw [List.any_eq_true]
        rintro ⟨e, he, h8⟩
        rw [← hT2] at he
        unfold setP at he
        obtain ⟨x, hx, rfl⟩ := List.mem_map.1 he
        obtain ⟨j, hj⟩ := List.getElem?_of_mem hx
        have h9 := hall j x (List.getElem?_eq_some_iff.1 hj).1 hj
        have e1 : (if x.1 = n then (n, p) else x).1 = x.1 := by
          split
          · rename_i h; exact h.symm
          · rfl
        rw [e1] at h8
        exact h9 (of_decide_eq_true h8)
      rw [if_neg hany]
      repeat' (first | refine aw_seq ?_ | ((first | apply ao_val | apply aq_val); exact wants_a; (first | exact ov_nilcheck rfl | exact ov_a); (exact rfl)) | refine zy ?_ | refine zon fun _ => ?_ | refine zoa fun vr lr hr => ?_ | refine zoS (fun _ => ?_) (fun _ => ?_) | refine zqS (fun _ => ?_) (fun _ => ?_) | refine zwS (fun _ => ?_) (fun _ => ?_))
      exact ⟨(g5, .cells cs5.toArray 62 (0, 0)) :: ((g, .cells #[.slice (some ⟨g5, 0, none⟩) T2.length c5] 65 (0, 0)) :: R), _, hsub_a, List.Perm.swap _ _ _, rfl, _, rfl, _, _, rfl, r5⟩
end Trt
end Go.Proofs.Ytonhfddklkbnbaa
