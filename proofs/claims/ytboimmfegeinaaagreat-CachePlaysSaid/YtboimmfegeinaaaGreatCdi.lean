/- The landed code's deltas of an event; conditions: names of at most 1,000 bytes, at most 1,000 objects. -/
import Derived.Test.YtboimmfegeinaaaGreatCdg
namespace Go.Proofs.YtboimmfegeinaaaGreat
namespace Chm
open Go Go.RowKit Sx Lab Vec Ojt Evt
attribute [local irreducible] Go.Calls

theorem dels_none (r : Value) (h : r = .slice none 0 0) : DDels [] r [] := ⟨[], [], [], rfl, rfl, by rw [h]; exact RowB.nil, Parts.nil⟩
theorem dels_one {d : PD} {l : Hp} {b : Nat} {T : TypeId} (hT : T = 57) (h : KD d l) : DDels [deD d] (.slice (some ⟨b, 0, none⟩) 1 1) ([(b, .cells (cellsD d).toArray T (0, 0))] ++ l) := by
  subst hT
  refine ⟨[d], [(b, .cells (cellsD d).toArray 57 (0, 0))], l, rfl, rfl, ?_, ?_⟩
  · have := RowB.lit (e := 57) (sz := 21) (n := 1) (g := b) (cs := cellsD d) rfl
    simpa using this
  · have := Parts.snoc (p := d) (Parts.nil (K := KD)) h
    simpa using this
section
variable {w : World} {g : Nat} {st : St} {mo mg : Option Nat} {X : List (PO × Nat)} {co : Nat} {G : List (Gr × Nat)} {cg : Nat}
set_option maxHeartbeats 64000000 in
theorem deltas_ok (h : CAt w g st mo mg X co G cg) (hf : Fine st) (hwf : ∀ o ∈ st.os, wfS o) (hl : st.os.length ≤ 1000) (kind : Int) (p : PO) (ver : Int) (v : Value) (qs : List PO) (hp : wfS p.2) (hq : wfL qs) (hq3 : qs.length ≤ 1000) (ho : ResAt w p.1 p.2.rs) (hv : ObjsAt w v qs)
    (hr : rightE kind p.2 ver (obs qs) = true) (hlow : lowO st kind p.2 < (versE kind p.2 ver (obs qs)).1) :
    Calls Tryz.prog 23 #[.pointer (some ⟨g, 0, none⟩), EV kind p ver v] w fun e w' => ∃ r, e = .returned r ∧ NewD (DDels (dlO st.os (nxO st kind p.2 ver (obs qs)).os)) w w' r := by
  have c0 := h.c0
  have lt := h.lt
  have hcm := fun w' (hb : Below w.heap.size w w') => comes_ok (h.below hb) hf hwf p hp (ho.below hb)
  have hrl := fun w' (hb : Below w.heap.size w w') hr2 => relisted_ok (h.below hb) hf hwf hl p ver v qs hp hq hq3 (ho.below hb) (hv.below hb) hr2
  obtain ⟨v2, hv2, hlo⟩ := h.look_o hf.os.own (keyO p.2)
  obtain ⟨va, vc, hvl⟩ := hv2.len
  subst hvl
  rw [vers_is hr] at hlow
  obtain ⟨x, k, s, n, over, c, tm, bs, rs⟩ := p
  obtain ⟨xa, xc, hx⟩ := ho.len
  simp only at hx
  subst hx
  obtain ⟨a, cp, hvl⟩ := hv.1.len
  subst hvl
  refine calls1 (args := [.pointer (some ⟨g, 0, none⟩), EV kind (.slice xa rs.length xc, ⟨k, s, n, over, c, tm, bs, rs⟩) ver (.slice a qs.length cp)]) Tryz.func23 rfl rfl rfl rfl ?_
  rcases right_kind hr with rfl | rfl | rfl | rfl
  · have hdl : dlO st.os (nxO st 0 ⟨k, s, n, over, c, tm, bs, rs⟩ ver (obs qs)).os = [comesD st ⟨k, s, n, over, c, tm, bs, rs⟩] := dl_put hf hr (by
      rw [if_pos (.inl rfl), lowO, if_pos (.inl rfl)] at hlow
      exact hlow)
    simp only at hdl ⊢
    rw [hdl]
    repeat' (first | refine aw_seq ?_ | refine zz ?_ | refine zon fun _ => ?_ | refine zoa fun vr lr hr => ?_ | (apply ao_callD; exact wants_a; (exact oc_func rfl); (exact rfl); (first | exact fun w hw => hcm w hw.below); intro vr lr hr) | refine zoS (fun _ => ?_) (fun _ => ?_) | refine zqS (fun _ => ?_) (fun _ => ?_) | refine zwS (fun _ => ?_) (fun _ => ?_))
    revert vr lr hr
    intro v1 l1 hdd
    obtain ⟨a1, q1, a2, q2, rfl, hkd⟩ := del_open hdd
    repeat' (first | refine aw_seq ?_ | refine zz ?_ | refine zon fun _ => ?_ | refine zoa fun vr lr hr => ?_ | refine zoS (fun _ => ?_) (fun _ => ?_) | refine zqS (fun _ => ?_) (fun _ => ?_) | refine zwS (fun _ => ?_) (fun _ => ?_))
    exact fun w' hw => ⟨_, rfl, hw.toD rfl (l := [(_, _)] ++ l1) (Cut.app (by solve | (repeat (first | exact Cut.here | exact Cut.here1 | exact Cut.nil | apply Cut.skip | apply Cut.skipA))) (by solve | (repeat (first | exact Cut.here | exact Cut.here1 | exact Cut.nil | apply Cut.skip | apply Cut.skipA)))) (dels_one rfl hkd)⟩
  · have hdl := dl_del hf (k, s, n)
    have hnx : (nxO st 1 ⟨k, s, n, over, c, tm, bs, rs⟩ ver (obs qs)).os = woO st.os (k, s, n) := rfl
    simp only at hnx ⊢
    rw [hnx, hdl]
    cases hg : getO st.os (k, s, n) with
    | none =>
      rw [hg] at hlo
      unfold getB at hlo
      simp only at hlo ⊢
      repeat' (first | (apply ao_nilh; exact hsub_a) | apply ao_nil | apply aq_nil | apply ah_end | ((first | apply ao_val | apply aq_val | (apply ah_take; (exact rfl))); exact wants_a; (first | exact ov_nilcheck rfl | exact hlo true rfl rfl | exact ov_a); (exact rfl)) | ((first | apply ao_skip | apply aq_skip | (apply ah_skip; (exact rfl))); exact nots_a; (exact rfl)) | (refine ao_is ?_; first | (apply ao_new; exact wants_a; exact on_a; (exact rfl); intro _) | (apply ao_store; exact wants_a; exact ow_a; exact upd_a) | (apply ao_valw; exact wants_a; exact ox_a; (exact rfl); exact upd_a) | (apply ao_skip0; exact nots_a) | (apply ao_append; exact wants_a; (exact rfl); assumption; (exact rfl); exact cut_a; exact has_a; (exact rfl); (exact rfl); omega; omega; omega; (exact rfl); intro vr lr hr)) | (apply ah_one; (exact rfl)) | (apply ah_two; (exact rfl); (exact rfl)) | (apply ah_three; (exact rfl); (exact rfl); (exact rfl)) | (refine aw_is ?_; first | (apply aw_held (id := 5) (pl := (.t 0 (.t 1 (.t 2 (.t 3 (.t 4 (.t 5 (.t 6 (.t 7 (.t 8 (.t 9 (.t 10 (.o 11 (.o 12 (.t 13 .e))))))))))))))); (kernel_rfl); (kernel_rfl); (kernel_rfl); (solve | (exact List.Sublist.refl _))) | refine aw_seq ?_ | refine aw_block ?_ | refine aw_region ?_ | refine aw_skip ?_ | refine aw_exit ?_ | refine aw_ret ?_ | refine aw_label ?_ | refine aw_scope ?_ | refine aw_cond_t rfl (by with_reducible rfl) ?_ | refine aw_cond_f rfl (by with_reducible rfl) ?_ | refine aw_draw (by kernel_rfl) (by kernel_rfl) ?_) | (first | (refine ah_is ?_; (fail_if_success first | refine ah_glit (b := true) rfl rfl rfl (by with_reducible rfl) ?_ | refine ah_glit (b := false) rfl rfl rfl (by with_reducible rfl) ?_); apply ah_gt; (exact rfl); (exact rfl); (exact rfl); exact t_a) | ((refine ao_is ?_; (fail_if_success first | refine ao_glit (b := true) rfl rfl (by with_reducible rfl) ?_ | refine ao_glit (b := false) rfl rfl (by with_reducible rfl) ?_)); apply ao_gt; (exact rfl); (exact rfl); exact t_a) | ((refine aq_is ?_; (fail_if_success first | refine aq_glit (b := true) rfl rfl (by with_reducible rfl) ?_ | refine aq_glit (b := false) rfl rfl (by with_reducible rfl) ?_)); apply aq_gt; (exact rfl); (exact rfl); exact t_a) | (apply aw_ct; (exact rfl); exact t_a)) | (first | (refine ah_is ?_; (fail_if_success first | refine ah_glit (b := true) rfl rfl rfl (by with_reducible rfl) ?_ | refine ah_glit (b := false) rfl rfl rfl (by with_reducible rfl) ?_); apply ah_gf; (exact rfl); (exact rfl); (exact rfl); exact f_a) | ((refine ao_is ?_; (fail_if_success first | refine ao_glit (b := true) rfl rfl (by with_reducible rfl) ?_ | refine ao_glit (b := false) rfl rfl (by with_reducible rfl) ?_)); apply ao_gf; (exact rfl); (exact rfl); exact f_a) | ((refine aq_is ?_; (fail_if_success first | refine aq_glit (b := true) rfl rfl (by with_reducible rfl) ?_ | refine aq_glit (b := false) rfl rfl (by with_reducible rfl) ?_)); apply aq_gf; (exact rfl); (exact rfl); exact f_a) | (apply aw_cf; (exact rfl); exact f_a)) | refine at_normal ?_ | refine at_exit ?_ | refine at_ret ?_ | refine ib_normal ?_ | refine ib_exit ?_ | refine ib_other ?_ | refine ib_ret ?_ | refine lq_exit ?_ | refine lq_ret ?_ | refine ci_ret ?_ | refine ci_exit ?_ | refine r1_ret rfl ?_ | refine r1_normal rfl ?_ | refine r2_ret rfl rfl ?_ | refine r2_normal rfl rfl ?_ | refine r3_ret rfl rfl rfl ?_ | refine r3_normal rfl rfl rfl ?_ | refine ng_normal ?_ | refine ng_exit ?_ | refine ng_ret ?_ | (apply rt_ret; (exact rfl); (exact rfl); (exact rfl); exact has_a; exact has_a; (exact rfl); (exact rfl)) | (apply rc1_ret; (exact rfl); exact has_a; (exact rfl)) | (apply rc2_ret; (exact rfl); exact has_a; (exact rfl); (exact rfl)) | (refine ao_is ?_; (fail_if_success first | refine ao_glit (b := true) rfl rfl (by with_reducible rfl) ?_ | refine ao_glit (b := false) rfl rfl (by with_reducible rfl) ?_); refine ao_gbool rfl rfl (fun _ => ?_) (fun _ => ?_)) | (refine aq_is ?_; (fail_if_success first | refine aq_glit (b := true) rfl rfl (by with_reducible rfl) ?_ | refine aq_glit (b := false) rfl rfl (by with_reducible rfl) ?_); refine aq_gbool rfl rfl (fun _ => ?_) (fun _ => ?_)) | (refine aw_is ?_; refine aw_cond rfl (fun _ => ?_) (fun _ => ?_)))
      exact fun w' hw => ⟨_, rfl, hw.toD rfl (l := []) (by solve | (repeat (first | exact Cut.here | exact Cut.here1 | exact Cut.nil | apply Cut.skip | apply Cut.skipA))) (dels_none _ rfl)⟩
    | some old =>
      rw [hg] at hlo hv2
      have hwo := hwf old (getO_some hg).1
      unfold getB at hlo hv2
      simp only at hlo hv2 ⊢
      have hgo := fun w' (hb : Below w.heap.size w w') => goes_ok (.slice va old.rs.length vc, old) hwo w' (hv2.below hb)
      obtain ⟨k1, s1, n1, ver2, c2, tm2, bs2, rs2⟩ := old
      simp only at hlo hv2 hgo ⊢
      repeat' (first | (apply ao_nilh; exact hsub_a) | apply ao_nil | apply aq_nil | apply ah_end | ((first | apply ao_val | apply aq_val | (apply ah_take; (exact rfl))); exact wants_a; (first | exact ov_nilcheck rfl | exact hlo true rfl rfl | exact ov_a); (exact rfl)) | ((first | apply ao_skip | apply aq_skip | (apply ah_skip; (exact rfl))); exact nots_a; (exact rfl)) | (refine ao_is ?_; first | (apply ao_new; exact wants_a; exact on_a; (exact rfl); intro _) | (apply ao_store; exact wants_a; exact ow_a; exact upd_a) | (apply ao_valw; exact wants_a; exact ox_a; (exact rfl); exact upd_a) | (apply ao_skip0; exact nots_a) | (apply ao_append; exact wants_a; (exact rfl); assumption; (exact rfl); exact cut_a; exact has_a; (exact rfl); (exact rfl); omega; omega; omega; (exact rfl); intro vr lr hr)) | (apply ao_callD; exact wants_a; (exact oc_func rfl); (exact rfl); (first | exact fun w hw => hgo w hw.below); intro vr lr hr) | (apply ah_one; (exact rfl)) | (apply ah_two; (exact rfl); (exact rfl)) | (apply ah_three; (exact rfl); (exact rfl); (exact rfl)) | (refine aw_is ?_; first | (apply aw_held (id := 5) (pl := (.t 0 (.t 1 (.t 2 (.t 3 (.t 4 (.t 5 (.t 6 (.t 7 (.t 8 (.t 9 (.t 10 (.o 11 (.o 12 (.t 13 .e))))))))))))))); (kernel_rfl); (kernel_rfl); (kernel_rfl); (solve | (exact List.Sublist.refl _))) | refine aw_seq ?_ | refine aw_block ?_ | refine aw_region ?_ | refine aw_skip ?_ | refine aw_exit ?_ | refine aw_ret ?_ | refine aw_label ?_ | refine aw_scope ?_ | refine aw_cond_t rfl (by with_reducible rfl) ?_ | refine aw_cond_f rfl (by with_reducible rfl) ?_ | refine aw_draw (by kernel_rfl) (by kernel_rfl) ?_) | (first | (refine ah_is ?_; (fail_if_success first | refine ah_glit (b := true) rfl rfl rfl (by with_reducible rfl) ?_ | refine ah_glit (b := false) rfl rfl rfl (by with_reducible rfl) ?_); apply ah_gt; (exact rfl); (exact rfl); (exact rfl); exact t_a) | ((refine ao_is ?_; (fail_if_success first | refine ao_glit (b := true) rfl rfl (by with_reducible rfl) ?_ | refine ao_glit (b := false) rfl rfl (by with_reducible rfl) ?_)); apply ao_gt; (exact rfl); (exact rfl); exact t_a) | ((refine aq_is ?_; (fail_if_success first | refine aq_glit (b := true) rfl rfl (by with_reducible rfl) ?_ | refine aq_glit (b := false) rfl rfl (by with_reducible rfl) ?_)); apply aq_gt; (exact rfl); (exact rfl); exact t_a) | (apply aw_ct; (exact rfl); exact t_a)) | (first | (refine ah_is ?_; (fail_if_success first | refine ah_glit (b := true) rfl rfl rfl (by with_reducible rfl) ?_ | refine ah_glit (b := false) rfl rfl rfl (by with_reducible rfl) ?_); apply ah_gf; (exact rfl); (exact rfl); (exact rfl); exact f_a) | ((refine ao_is ?_; (fail_if_success first | refine ao_glit (b := true) rfl rfl (by with_reducible rfl) ?_ | refine ao_glit (b := false) rfl rfl (by with_reducible rfl) ?_)); apply ao_gf; (exact rfl); (exact rfl); exact f_a) | ((refine aq_is ?_; (fail_if_success first | refine aq_glit (b := true) rfl rfl (by with_reducible rfl) ?_ | refine aq_glit (b := false) rfl rfl (by with_reducible rfl) ?_)); apply aq_gf; (exact rfl); (exact rfl); exact f_a) | (apply aw_cf; (exact rfl); exact f_a)) | refine at_normal ?_ | refine at_exit ?_ | refine at_ret ?_ | refine ib_normal ?_ | refine ib_exit ?_ | refine ib_other ?_ | refine ib_ret ?_ | refine lq_exit ?_ | refine lq_ret ?_ | refine ci_ret ?_ | refine ci_exit ?_ | refine r1_ret rfl ?_ | refine r1_normal rfl ?_ | refine r2_ret rfl rfl ?_ | refine r2_normal rfl rfl ?_ | refine r3_ret rfl rfl rfl ?_ | refine r3_normal rfl rfl rfl ?_ | refine ng_normal ?_ | refine ng_exit ?_ | refine ng_ret ?_ | (apply rt_ret; (exact rfl); (exact rfl); (exact rfl); exact has_a; exact has_a; (exact rfl); (exact rfl)) | (apply rc1_ret; (exact rfl); exact has_a; (exact rfl)) | (apply rc2_ret; (exact rfl); exact has_a; (exact rfl); (exact rfl)) | (refine ao_is ?_; (fail_if_success first | refine ao_glit (b := true) rfl rfl (by with_reducible rfl) ?_ | refine ao_glit (b := false) rfl rfl (by with_reducible rfl) ?_); refine ao_gbool rfl rfl (fun _ => ?_) (fun _ => ?_)) | (refine aq_is ?_; (fail_if_success first | refine aq_glit (b := true) rfl rfl (by with_reducible rfl) ?_ | refine aq_glit (b := false) rfl rfl (by with_reducible rfl) ?_); refine aq_gbool rfl rfl (fun _ => ?_) (fun _ => ?_)) | (refine aw_is ?_; refine aw_cond rfl (fun _ => ?_) (fun _ => ?_)))
      revert vr lr hr
      intro v1 l1 hdd
      obtain ⟨a1, q1, a2, q2, rfl, hkd⟩ := del_open hdd
      repeat' (first | refine aw_seq ?_ | refine zz ?_ | refine zon fun _ => ?_ | refine zoa fun vr lr hr => ?_ | refine zoS (fun _ => ?_) (fun _ => ?_) | refine zqS (fun _ => ?_) (fun _ => ?_) | refine zwS (fun _ => ?_) (fun _ => ?_))
      exact fun w' hw => ⟨_, rfl, hw.toD rfl (l := [(_, _)] ++ l1) (Cut.app (by solve | (repeat (first | exact Cut.here | exact Cut.here1 | exact Cut.nil | apply Cut.skip | apply Cut.skipA))) (by solve | (repeat (first | exact Cut.here | exact Cut.here1 | exact Cut.nil | apply Cut.skip | apply Cut.skipA)))) (dels_one rfl hkd)⟩
  · have hnx : (nxO st 2 ⟨k, s, n, over, c, tm, bs, rs⟩ ver (obs qs)).os = rlO st (obs qs) ver := rfl
    have hrr := (right_rel hr).1
    simp only at hnx ⊢
    rw [hnx]
    repeat' (first | refine aw_seq ?_ | refine zz ?_ | refine zon fun _ => ?_ | refine zoa fun vr lr hr => ?_ | (apply ao_callD; exact wants_a; (exact oc_func rfl); (exact rfl); (first | exact fun w hw => hrl w hw.below hrr); intro vr lr hr) | refine zoS (fun _ => ?_) (fun _ => ?_) | refine zqS (fun _ => ?_) (fun _ => ?_) | refine zwS (fun _ => ?_) (fun _ => ?_))
    revert vr lr hr
    intro v1 l1 hdd
    repeat' (first | refine aw_seq ?_ | refine zz ?_ | refine zon fun _ => ?_ | refine zoa fun vr lr hr => ?_ | refine zoS (fun _ => ?_) (fun _ => ?_) | refine zqS (fun _ => ?_) (fun _ => ?_) | refine zwS (fun _ => ?_) (fun _ => ?_))
    exact fun w' hw => ⟨_, rfl, hw.toD rfl (l := l1) (by solve | (repeat (first | exact Cut.here | exact Cut.here1 | exact Cut.nil | apply Cut.skip | apply Cut.skipA))) hdd⟩
  · have hnx : (nxO st 3 ⟨k, s, n, over, c, tm, bs, rs⟩ ver (obs qs)).os = st.os := rfl
    have hdl : dlO st.os st.os = [] := by
      refine List.eq_nil_iff_forall_not_mem.2 fun d hd => ?_
      obtain ⟨j, h1, -⟩ := (dlO_mem _ _ hf.os hf.os d).1 hd
      exact h1 rfl
    simp only at hnx ⊢
    rw [hnx, hdl]
    repeat' (first | refine aw_seq ?_ | refine zz ?_ | refine zon fun _ => ?_ | refine zoa fun vr lr hr => ?_ | refine zoS (fun _ => ?_) (fun _ => ?_) | refine zqS (fun _ => ?_) (fun _ => ?_) | refine zwS (fun _ => ?_) (fun _ => ?_))
    exact fun w' hw => ⟨_, rfl, hw.toD rfl (l := []) (by solve | (repeat (first | exact Cut.here | exact Cut.here1 | exact Cut.nil | apply Cut.skip | apply Cut.skipA))) (dels_none _ rfl)⟩
end
end Chm
end Go.Proofs.YtboimmfegeinaaaGreat
