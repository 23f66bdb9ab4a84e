/- What the document's answer for layer 8 does with lists: with; conditions: names of at most 1,000 bytes, at most 19,999 objects. -/
import Derived.Test.YtboimmfegeinaaaGreatChk
import Derived.Test.YtboimmfegeinaaaGreatEvs
namespace Go.Proofs.YtboimmfegeinaaaGreat
namespace Chm
open Go Go.RowKit Sx Lab Vec Ojt Evt
attribute [local irreducible] Go.Calls

def withP (ps : List PO) (p : PO) : List PO := sortP (withoutP ps (keyO p.2) ++ [p])
set_option maxHeartbeats 32000000 in
theorem rwith_ok (v : Value) (ps : List PO) (x : Value) (o : Ob) (hwf : wfL ps) (hwo : wfS o) (hl : ps.length ≤ 19999) (w : World) (hv : ObjsAt w v ps) (hx : ResAt w x o.rs) :
    Calls Tryz.prog 43 #[v, OV o x] w fun e w' => ∃ r, e = .returned r ∧ NewRow 36 8 w w' r (withP ps (x, o)).length ((withP ps (x, o)).flatMap cellsO) := by
  obtain ⟨xa, xc, rfl⟩ := hx.len
  obtain ⟨a, c, rfl⟩ := hv.1.len
  refine calls1 (args := [.slice a ps.length c, OV o (.slice xa o.rs.length xc)]) Tryz.func43 rfl rfl rfl rfl ?_
  have h1 := fun w' (hb : Below w.heap.size w w') => rwithout_ok _ ps (keyO o) (by omega) w' (hv.below hb)
  have hlen : (withoutP ps (keyO o)).length ≤ ps.length := List.length_filter_le _ _
  have hmem : ∀ p ∈ withoutP ps (keyO o), p ∈ ps := fun p hp => (List.mem_filter.1 hp).1
  have w2 : wfL (withoutP ps (keyO o) ++ [((.slice xa o.rs.length xc : Value), o)]) := ⟨by rw [List.length_append, List.length_singleton]; omega, fun p hp => by
    rcases List.mem_append.1 hp with hp | hp
    · exact hwf.2 p (hmem p hp)
    · rw [List.mem_singleton.1 hp]; exact hwo⟩
  have h2 := fun w' (hb : Below w.heap.size w w') u (h : OldRow w' 8 u ((withoutP ps (keyO o)).length + 1) ((withoutP ps (keyO o)).flatMap cellsO ++ [S o.k, S o.s, S o.n, I o.ver, S o.c, .bool o.tm, .bool o.bs, .slice xa o.rs.length xc])) =>
    rsorted_ok u (withoutP ps (keyO o) ++ [((.slice xa o.rs.length xc : Value), o)]) w2 (by rw [List.length_append, List.length_singleton]; omega) w' ⟨by
      rw [List.length_append, List.flatMap_append]
      exact h, fun p hp => by
        rcases List.mem_append.1 hp with hp | hp
        · exact (hv.2 p (hmem p hp)).below hb
        · rw [List.mem_singleton.1 hp]; exact hx.below hb⟩
  unfold withP
  simp only
  generalize withoutP ps (keyO o) = qs at h1 h2 hlen
  repeat' (first | (apply ao_nilh; exact hsub_a) | apply ao_nil | apply aq_nil | apply ah_end | ((first | apply ao_val | apply aq_val | (apply ah_take; (exact rfl))); exact wants_a; exact ov_a; (exact rfl)) | ((first | apply ao_skip | apply aq_skip | (apply ah_skip; (exact rfl))); exact nots_a; (exact rfl)) | (refine ao_is ?_; first | (apply ao_new; exact wants_a; exact on_a; (exact rfl); intro _) | (apply ao_store; exact wants_a; exact ow_a; exact upd_a) | (apply ao_valw; exact wants_a; exact ox_a; (exact rfl); exact upd_a) | (apply ao_skip0; exact nots_a) | (apply ao_append; exact wants_a; (exact rfl); assumption; (exact rfl); exact cut_a; exact has_a; (exact rfl); (exact rfl); omega; omega; omega; (exact rfl); intro vr lr hr)) | (apply ao_callr; exact wants_a; (exact oc_func rfl); (exact rfl); (first | exact fun w hw => h1 w hw.below | (intro w hw; refine h2 w hw.below _ ?_; exact hw.oldr (by assumption) cut_a)); intro vr lr hr) | (apply ah_one; (exact rfl)) | (apply ah_two; (exact rfl); (exact rfl)) | (apply ah_three; (exact rfl); (exact rfl); (exact rfl)) | (refine aw_is ?_; first | (apply aw_held (id := 1) (pl := (.t 0 (.t 1 (.t 2 (.t 4 (.w 3 (.o 5 (.o 6 (.o 7 (.t 8 .e)))) 5 (.o 3 (.o 6 (.o 7 (.t 8 .e)))))))))); (kernel_rfl); (kernel_rfl); (kernel_rfl); (solve | (exact List.Sublist.refl _))) | refine aw_seq ?_ | refine aw_block ?_ | refine aw_region ?_ | refine aw_skip ?_ | refine aw_exit ?_ | refine aw_ret ?_ | refine aw_label ?_ | refine aw_scope ?_ | refine aw_cond_t rfl (by with_reducible rfl) ?_ | refine aw_cond_f rfl (by with_reducible rfl) ?_ | refine aw_draw (by kernel_rfl) (by kernel_rfl) ?_) | (first | (refine ah_is ?_; (fail_if_success first | refine ah_glit (b := true) rfl rfl rfl (by with_reducible rfl) ?_ | refine ah_glit (b := false) rfl rfl rfl (by with_reducible rfl) ?_); apply ah_gt; (exact rfl); (exact rfl); (exact rfl); exact t_a) | ((refine ao_is ?_; (fail_if_success first | refine ao_glit (b := true) rfl rfl (by with_reducible rfl) ?_ | refine ao_glit (b := false) rfl rfl (by with_reducible rfl) ?_)); apply ao_gt; (exact rfl); (exact rfl); exact t_a) | ((refine aq_is ?_; (fail_if_success first | refine aq_glit (b := true) rfl rfl (by with_reducible rfl) ?_ | refine aq_glit (b := false) rfl rfl (by with_reducible rfl) ?_)); apply aq_gt; (exact rfl); (exact rfl); exact t_a) | (apply aw_ct; (exact rfl); exact t_a)) | (first | (refine ah_is ?_; (fail_if_success first | refine ah_glit (b := true) rfl rfl rfl (by with_reducible rfl) ?_ | refine ah_glit (b := false) rfl rfl rfl (by with_reducible rfl) ?_); apply ah_gf; (exact rfl); (exact rfl); (exact rfl); exact f_a) | ((refine ao_is ?_; (fail_if_success first | refine ao_glit (b := true) rfl rfl (by with_reducible rfl) ?_ | refine ao_glit (b := false) rfl rfl (by with_reducible rfl) ?_)); apply ao_gf; (exact rfl); (exact rfl); exact f_a) | ((refine aq_is ?_; (fail_if_success first | refine aq_glit (b := true) rfl rfl (by with_reducible rfl) ?_ | refine aq_glit (b := false) rfl rfl (by with_reducible rfl) ?_)); apply aq_gf; (exact rfl); (exact rfl); exact f_a) | (apply aw_cf; (exact rfl); exact f_a)) | refine at_normal ?_ | refine at_exit ?_ | refine at_ret ?_ | refine ib_normal ?_ | refine ib_exit ?_ | refine ib_other ?_ | refine ib_ret ?_ | refine lq_exit ?_ | refine lq_ret ?_ | refine ci_ret ?_ | refine ci_exit ?_ | refine r1_ret rfl ?_ | refine r1_normal rfl ?_ | refine r2_ret rfl rfl ?_ | refine r2_normal rfl rfl ?_ | refine r3_ret rfl rfl rfl ?_ | refine r3_normal rfl rfl rfl ?_ | refine ng_normal ?_ | refine ng_exit ?_ | refine ng_ret ?_ | (apply rt_ret; (exact rfl); (exact rfl); (exact rfl); exact has_a; exact has_a; (exact rfl); (exact rfl)) | (apply rc1_ret; (exact rfl); exact has_a; (exact rfl)) | (apply rc2_ret; (exact rfl); exact has_a; (exact rfl); (exact rfl)) | (refine ao_is ?_; (fail_if_success first | refine ao_glit (b := true) rfl rfl (by with_reducible rfl) ?_ | refine ao_glit (b := false) rfl rfl (by with_reducible rfl) ?_); refine ao_gbool rfl rfl (fun _ => ?_) (fun _ => ?_)) | (refine aq_is ?_; (fail_if_success first | refine aq_glit (b := true) rfl rfl (by with_reducible rfl) ?_ | refine aq_glit (b := false) rfl rfl (by with_reducible rfl) ?_); refine aq_gbool rfl rfl (fun _ => ?_) (fun _ => ?_)) | (refine aw_is ?_; refine aw_cond rfl (fun _ => ?_) (fun _ => ?_)))
  all_goals exact fun w' hw => ⟨_, rfl, hw.below, _, hr, fun b o hm => hw.at_ b o (List.mem_append_left _ hm)⟩
end Chm
end Go.Proofs.YtboimmfegeinaaaGreat
