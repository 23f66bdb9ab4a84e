/- Contracts of the document's sums and differences for layer 4; conditions: at most 100 entries, names of at most 100,000 bytes, numbers of 128 bits. -/
import Derived.Test.YtkjjlppfomidbaaGreatVput
import Derived.Test.YtkjjlppfomidbaaGreatQsc
import Derived.Test.YtkjjlppfomidbaaGreatWrtext
/- Vboth: Contracts of the document's sums and differences for layer 4; conditions: at most 100 entries, names of at most 100,000 bytes, numbers of 128 bits. -/
namespace Go.Proofs.YtkjjlppfomidbaaGreat
namespace Vec
open Go Go.RowKit Sx Wid Lab
attribute [local irreducible] Go.Calls
theorem inR_iff (Z : Int) : decide (inW Z) = inR Z := by
  rw [Bool.eq_iff_iff]
  unfold inR
  simp only [decide_eq_true_eq, Bool.and_eq_true]
  exact Iff.rfl
theorem raddV (x y : Int) (hx : inW x) (hy : inW y) (w : World) : Calls Tryz.prog 81 #[WV x, WV y] w fun e w' => e = .returned (sumV (x + y)) ∧ Below w.heap.size w w' := by
  have := radd (sHi x) (sLo x) (sHi y) (sLo y) (s_isW x) (s_isW y) w
  rwa [s_num, s_num, sN_in hx, sN_in hy] at this
theorem rsubV (x y : Int) (hx : inW x) (hy : inW y) (w : World) : Calls Tryz.prog 82 #[WV x, WV y] w fun e w' => e = .returned (sumV (x - y)) ∧ Below w.heap.size w w' := by
  have := rsub (sHi x) (sLo x) (sHi y) (sLo y) (s_isW x) (s_isW y) w
  rwa [s_num, s_num, sN_in hx, sN_in hy] at this
theorem get_inW {es : List Ent} (h : wfV es) (m : Nm) : inW (getV es m) := by
  by_cases h0 : getV es m = 0
  · rw [h0]; unfold inW; omega
  · obtain ⟨e, he, -, h2⟩ := get_some h0
    rw [← h2]
    exact (h.2 e he).2
def combV (less : Bool) (a b : List Ent) : List Ent × Int :=
  if (rightV a && rightV b) = true then (match bothL less a a b with | some o => (o, 0) | none => ([], 3)) else ([], 1)
theorem wf_put {es : List Ent} {nm : Nm} {n : Int} (h1 : ∀ e ∈ es, e.1.length ≤ 100000 ∧ inW e.2) (h2 : nm.length ≤ 100000) (h3 : inW n) : ∀ e ∈ putV es nm n, e.1.length ≤ 100000 ∧ inW e.2 := fun e he => by
  rcases put_mem he with ⟨rfl, -⟩ | he
  · exact ⟨h2, h3⟩
  · exact h1 e he
theorem vcells_flat (es : List Ent) : (vcells es).all flat = true := by
  rw [List.all_eq_true]
  intro x hx
  obtain ⟨e, -, he⟩ := List.mem_flatMap.1 hx
  simp only [cellsE, List.mem_cons, List.not_mem_nil, or_false] at he
  rcases he with rfl | rfl | rfl <;> rfl
set_option maxHeartbeats 8000000 in
theorem vboth_ok (v u : Value) (es fs : List Ent) (less : Bool) (hw1 : wfV es) (hw2 : wfV fs) (hl1 : es.length ≤ 30000) (hl2 : fs.length ≤ 30000) (w : World) (hv : VecAt w v es) (hu : VecAt w u fs) :
    Calls Tryz.prog 46 #[v, u, .bool less] w fun e w' => ∃ r, e = .returned (.tuple #[r, I (combV less es fs).2]) ∧ NewRow 96 3 w w' r (combV less es fs).1.length (vcells (combV less es fs).1) := by
  obtain ⟨a, c, hv', hat⟩ := OldRow.cells cellsE_len hv
  obtain ⟨a2, c2, hu', hat2⟩ := OldRow.cells cellsE_len hu
  refine calls2 (args := [v, u, .bool less]) Tryz.func46 rfl rfl rfl rfl ?_
  have hra : ∀ w', Below w.heap.size w w' → Calls Tryz.prog 77 #[v] w' fun e w'' => e = .returned (.bool (rightV es)) ∧ Below w'.heap.size w' w'' := fun w' hb => vright_ok v es hw1 w' (hv.below hb)
  have hrb : ∀ w', Below w.heap.size w w' → Calls Tryz.prog 77 #[u] w' fun e w'' => e = .returned (.bool (rightV fs)) ∧ Below w'.heap.size w' w'' := fun w' hb => vright_ok u fs hw2 w' (hu.below hb)
  cases h1 : rightV es
  · have hq : combV less es fs = ([], 1) := by unfold combV; rw [h1]; rfl
    rw [hq]
    rw [h1] at hra
    repeat' (first | refine aw_seq ?_ | refine zz ?_ | refine zon fun _ => ?_ | refine zoa fun vr lr hr => ?_ | ((first | apply ao_call | apply aq_call); exact wants_a; (first | exact oc_func rfl | exact oc_clos rfl rfl | exact oc_bnd rfl rfl); (exact rfl); (first | exact fun w hw => hra w hw.below | exact fun w hw => hrb w hw.below)) | refine zoS (fun _ => ?_) (fun _ => ?_) | refine zqS (fun _ => ?_) (fun _ => ?_) | refine zwS (fun _ => ?_) (fun _ => ?_))
    exact fun w' hw => ⟨_, rfl, hw.below, _, RowB.nil, fun _ _ h => by cases h⟩
  cases h2 : rightV fs
  · have hq : combV less es fs = ([], 1) := by unfold combV; rw [h1, h2]; rfl
    rw [hq]
    rw [h1] at hra
    rw [h2] at hrb
    repeat' (first | refine aw_seq ?_ | refine zz ?_ | refine zon fun _ => ?_ | refine zoa fun vr lr hr => ?_ | ((first | apply ao_call | apply aq_call); exact wants_a; (first | exact oc_func rfl | exact oc_clos rfl rfl | exact oc_bnd rfl rfl); (exact rfl); (first | exact fun w hw => hra w hw.below | exact fun w hw => hrb w hw.below)) | refine zoS (fun _ => ?_) (fun _ => ?_) | refine zqS (fun _ => ?_) (fun _ => ?_) | refine zwS (fun _ => ?_) (fun _ => ?_))
    exact fun w' hw => ⟨_, rfl, hw.below, _, RowB.nil, fun _ _ h => by cases h⟩
  have hq : combV less es fs = (match bothL less es es fs with | some o => (o, 0) | none => ([], 3)) := by unfold combV; rw [h1, h2]; rfl
  rw [hq]
  rw [h1] at hra
  rw [h2] at hrb
  repeat' (first | refine aw_seq ?_ | refine zz ?_ | refine zon fun _ => ?_ | refine zoa fun vr lr hr => ?_ | ((first | apply ao_call | apply aq_call); exact wants_a; (first | exact oc_func rfl | exact oc_clos rfl rfl | exact oc_bnd rfl rfl); (exact rfl); (first | exact fun w hw => hra w hw.below | exact fun w hw => hrb w hw.below)) | refine zoS (fun _ => ?_) (fun _ => ?_) | refine zqS (fun _ => ?_) (fun _ => ?_) | refine zwS (fun _ => ?_) (fun _ => ?_))
  refine ao_append_o wants_a rfl RowB.lit0 rfl hv rfl cut_a (vcells_flat es) (by omega) (by omega) rfl ?_
  intro x0 l0 hr0
  rw [Nat.zero_add, List.nil_append] at hr0
  repeat' (first | refine aw_seq ?_ | refine zz ?_ | refine zon fun _ => ?_ | refine zoa fun vr lr hr => ?_ | refine zoS (fun _ => ?_) (fun _ => ?_) | refine zqS (fun _ => ?_) (fun _ => ?_) | refine zwS (fun _ => ?_) (fun _ => ?_))
  refine aw_for (t0 := [(0, v), (1, u), (2, .bool less), (10, x0), (11, I (0 : Nat))]) (fun q t H => ∃ (i : Nat) (x : Value) (l : Hp) (outs : List Ent), q = fs.length - i ∧ i ≤ fs.length ∧ RowB 96 3 x l outs.length (vcells outs) ∧ outs.length ≤ es.length + i ∧ (∀ e ∈ outs, e.1.length ≤ 100000 ∧ inW e.2) ∧ bothL less es outs (fs.drop i) = bothL less es es fs ∧ t = [(0, v), (1, u), (2, .bool less), (10, x), (11, I i)] ∧ H = l ++ []) ⟨0, _, _, es, rfl, by omega, hr0, by omega, hw1.2, rfl, rfl, rfl⟩ (by repeat (first | exact sub_nil | refine sub_cons rfl ?_)) ?_
  rintro q t H ⟨i, x, l, outs, rfl, hi, hr, hol, hwo, hbo, rfl, rfl⟩
  have hwf : wfV outs := ⟨by omega, hwo⟩
  by_cases hlt : i < fs.length
  · obtain ⟨e, he⟩ := getI hlt
    obtain ⟨g, o, rfl, hg, hc⟩ := hat2 i e (i : Int) he rfl
    obtain ⟨c0, -, -, cW, -⟩ := ent_cells hc
    have hwe := hw2.at he
    have hd : fs.drop i = e :: fs.drop (i + 1) := by
      have := List.drop_eq_getElem_cons hlt
      rw [this, (List.getElem?_eq_some_iff.1 he).2]
    have hgw := get_inW hw1 e.1
    have hpl := (put_len (nm := e.1) (n := opI less (getV es e.1) e.2) outs (opI less (getV es e.1) e.2 == 0)).1
    have hpl' : (putV outs e.1 (opI less (getV es e.1) e.2)).length ≤ outs.length + 1 := hpl
    subst hu'
    rw [hd] at hbo
    by_cases hin : inW (opI less (getV es e.1) e.2)
    · have hbo2 : bothL less es (putV outs e.1 (opI less (getV es e.1) e.2)) (fs.drop (i + 1)) = bothL less es es fs := by
        rw [← hbo]
        show _ = (if inR (opI less (getV es e.1) e.2) = true then _ else _)
        rw [if_pos (by rw [← inR_iff]; exact decide_eq_true hin)]
      have hwp := wf_put (n := opI less (getV es e.1) e.2) hwo hwe.1 hin
      cases less
      · have hok : (!(decide (inW (getV es e.1 + e.2)))) = false := by rw [decide_eq_true (show inW (getV es e.1 + e.2) from hin)]; rfl
        repeat' (first | (apply ao_nilh; exact hsub_a) | apply ao_nil | apply aq_nil | apply ah_end | ((first | apply ao_val | apply aq_val | (apply ah_take; (exact rfl))); exact wants_a; (first | exact ov_load_oa rfl hg cW rfl | exact ov_a); (exact rfl)) | ((first | apply ao_skip | apply aq_skip | (apply ah_skip; (exact rfl))); exact nots_a; (exact rfl)) | (refine ao_is ?_; first | (apply ao_new; exact wants_a; exact on_a; (exact rfl); intro _) | (apply ao_store; exact wants_a; exact ow_a; exact upd_a) | (apply ao_valw; exact wants_a; exact ox_a; (exact rfl); exact upd_a) | (apply ao_skip0; exact nots_a) | (apply ao_append; exact wants_a; (exact rfl); assumption; (exact rfl); exact cut_a; exact has_a; (exact rfl); (exact rfl); omega; omega; omega; (exact rfl); intro vr lr hr)) | ((first | apply ao_call | apply aq_call); exact wants_a; (first | exact oc_func rfl | exact oc_clos rfl rfl | exact oc_bnd rfl rfl); (exact rfl); (first | exact fun w hw => vget_ok v es e.1 hw1 w (hv.below hw.below) | exact fun w hw => raddV _ _ hgw hwe.2 w)) | (apply ao_callr; exact wants_a; (exact oc_func rfl); (exact rfl); (first | exact fun w hw => vput_ok _ outs e.1 _ hwf hwe.1 hin w (hw.oldr (by assumption) cut_a)); intro vr lr hr) | (apply ah_one; (exact rfl)) | (apply ah_two; (exact rfl); (exact rfl)) | (apply ah_three; (exact rfl); (exact rfl); (exact rfl)) | (refine aw_is ?_; first | (apply aw_held (id := 10) (pl := (.t 0 (.t 1 (.t 2 (.t 3 (.t 4 (.t 5 (.w 6 (.t 7 (.t 8 (.t 9 (.o 10 (.o 11 (.t 12 .e)))))) 10 (.o 6 (.t 7 (.t 8 (.t 9 (.o 11 (.t 12 .e)))))))))))))); (kernel_rfl); (kernel_rfl); (kernel_rfl); (solve | (exact List.Sublist.refl _))) | (apply aw_held (id := 15) (pl := (.t 0 (.t 1 (.t 2 (.t 3 (.t 4 (.t 5 (.t 6 (.o 7 (.t 8 .e)))))))))); (kernel_rfl); (kernel_rfl); (kernel_rfl); (solve | (exact List.Sublist.refl _))) | refine aw_seq ?_ | refine aw_block ?_ | refine aw_region ?_ | refine aw_skip ?_ | refine aw_exit ?_ | refine aw_ret ?_ | refine aw_label ?_ | refine aw_scope ?_ | refine aw_cond_t rfl (by with_reducible rfl) ?_ | refine aw_cond_f rfl (by with_reducible rfl) ?_ | refine aw_draw (by kernel_rfl) (by kernel_rfl) ?_) | (first | (refine ah_is ?_; (fail_if_success first | refine ah_glit (b := true) rfl rfl rfl (by with_reducible rfl) ?_ | refine ah_glit (b := false) rfl rfl rfl (by with_reducible rfl) ?_); apply ah_gt; (exact rfl); (exact rfl); (exact rfl); exact t_a) | ((refine ao_is ?_; (fail_if_success first | refine ao_glit (b := true) rfl rfl (by with_reducible rfl) ?_ | refine ao_glit (b := false) rfl rfl (by with_reducible rfl) ?_)); apply ao_gt; (exact rfl); (exact rfl); exact t_a) | ((refine aq_is ?_; (fail_if_success first | refine aq_glit (b := true) rfl rfl (by with_reducible rfl) ?_ | refine aq_glit (b := false) rfl rfl (by with_reducible rfl) ?_)); apply aq_gt; (exact rfl); (exact rfl); exact t_a) | (apply aw_ct; (exact rfl); exact t_a)) | (first | (refine ah_is ?_; (fail_if_success first | refine ah_glit (b := true) rfl rfl rfl (by with_reducible rfl) ?_ | refine ah_glit (b := false) rfl rfl rfl (by with_reducible rfl) ?_); apply ah_gf; (exact rfl); (exact rfl); (exact rfl); exact f_a) | ((refine ao_is ?_; (fail_if_success first | refine ao_glit (b := true) rfl rfl (by with_reducible rfl) ?_ | refine ao_glit (b := false) rfl rfl (by with_reducible rfl) ?_)); apply ao_gf; (exact rfl); (exact rfl); exact f_a) | ((refine aq_is ?_; (fail_if_success first | refine aq_glit (b := true) rfl rfl (by with_reducible rfl) ?_ | refine aq_glit (b := false) rfl rfl (by with_reducible rfl) ?_)); apply aq_gf; (exact rfl); (exact rfl); exact f_a) | (apply aw_cf; (exact rfl); exact f_a)) | refine at_normal ?_ | refine at_exit ?_ | refine at_ret ?_ | refine ib_normal ?_ | refine ib_exit ?_ | refine ib_other ?_ | refine ib_ret ?_ | refine lq_exit ?_ | refine lq_ret ?_ | refine ci_ret ?_ | refine ci_exit ?_ | refine r1_ret rfl ?_ | refine r1_normal rfl ?_ | refine r2_ret rfl rfl ?_ | refine r2_normal rfl rfl ?_ | refine r3_ret rfl rfl rfl ?_ | refine r3_normal rfl rfl rfl ?_ | refine ng_normal ?_ | refine ng_exit ?_ | refine ng_ret ?_ | (apply rt_ret; (exact rfl); (exact rfl); (exact rfl); exact has_a; exact has_a; (exact rfl); (exact rfl)) | (apply rc1_ret; (exact rfl); exact has_a; (exact rfl)) | (apply rc2_ret; (exact rfl); exact has_a; (exact rfl); (exact rfl)) | (refine ao_is ?_; (fail_if_success first | refine ao_glit (b := true) rfl rfl (by with_reducible rfl) ?_ | refine ao_glit (b := false) rfl rfl (by with_reducible rfl) ?_); refine ao_gbool rfl rfl (fun _ => ?_) (fun _ => ?_)) | (refine aq_is ?_; (fail_if_success first | refine aq_glit (b := true) rfl rfl (by with_reducible rfl) ?_ | refine aq_glit (b := false) rfl rfl (by with_reducible rfl) ?_); refine aq_gbool rfl rfl (fun _ => ?_) (fun _ => ?_)) | (refine aw_is ?_; refine aw_cond rfl (fun _ => ?_) (fun _ => ?_)))
        all_goals exact lq_normal' ⟨i + 1, _, _, putV outs e.1 (opI false (getV es e.1) e.2), rfl, by omega, (by assumption), by omega, hwp, hbo2, rfl, rfl⟩ (by omega) (by repeat (first | exact sub_nil | refine sub_cons rfl ?_)) hsub_a
      · have hok : (!(decide (inW (getV es e.1 - e.2)))) = false := by rw [decide_eq_true (show inW (getV es e.1 - e.2) from hin)]; rfl
        repeat' (first | (apply ao_nilh; exact hsub_a) | apply ao_nil | apply aq_nil | apply ah_end | ((first | apply ao_val | apply aq_val | (apply ah_take; (exact rfl))); exact wants_a; (first | exact ov_load_oa rfl hg cW rfl | exact ov_a); (exact rfl)) | ((first | apply ao_skip | apply aq_skip | (apply ah_skip; (exact rfl))); exact nots_a; (exact rfl)) | (refine ao_is ?_; first | (apply ao_new; exact wants_a; exact on_a; (exact rfl); intro _) | (apply ao_store; exact wants_a; exact ow_a; exact upd_a) | (apply ao_valw; exact wants_a; exact ox_a; (exact rfl); exact upd_a) | (apply ao_skip0; exact nots_a) | (apply ao_append; exact wants_a; (exact rfl); assumption; (exact rfl); exact cut_a; exact has_a; (exact rfl); (exact rfl); omega; omega; omega; (exact rfl); intro vr lr hr)) | ((first | apply ao_call | apply aq_call); exact wants_a; (first | exact oc_func rfl | exact oc_clos rfl rfl | exact oc_bnd rfl rfl); (exact rfl); (first | exact fun w hw => vget_ok v es e.1 hw1 w (hv.below hw.below) | exact fun w hw => raddV _ _ hgw hwe.2 w | exact fun w hw => rsubV _ _ hgw hwe.2 w)) | (apply ao_callr; exact wants_a; (exact oc_func rfl); (exact rfl); (first | exact fun w hw => vput_ok _ outs e.1 _ hwf hwe.1 hin w (hw.oldr (by assumption) cut_a)); intro vr lr hr) | (apply ah_one; (exact rfl)) | (apply ah_two; (exact rfl); (exact rfl)) | (apply ah_three; (exact rfl); (exact rfl); (exact rfl)) | (refine aw_is ?_; first | (apply aw_held (id := 10) (pl := (.t 0 (.t 1 (.t 2 (.t 3 (.t 4 (.t 5 (.w 6 (.t 7 (.t 8 (.t 9 (.o 10 (.o 11 (.t 12 .e)))))) 10 (.o 6 (.t 7 (.t 8 (.t 9 (.o 11 (.t 12 .e)))))))))))))); (kernel_rfl); (kernel_rfl); (kernel_rfl); (solve | (exact List.Sublist.refl _))) | (apply aw_held (id := 12) (pl := (.t 0 (.t 1 (.t 2 (.t 3 (.t 4 (.t 5 (.o 6 (.t 7 (.t 8 (.t 9 (.o 10 (.t 11 .e))))))))))))); (kernel_rfl); (kernel_rfl); (kernel_rfl); (solve | (apply hs_skip; exact List.Sublist.refl _))) | (apply aw_held (id := 15) (pl := (.t 0 (.t 1 (.t 2 (.t 3 (.t 4 (.t 5 (.t 6 (.o 7 (.t 8 .e)))))))))); (kernel_rfl); (kernel_rfl); (kernel_rfl); (solve | (exact List.Sublist.refl _))) | refine aw_seq ?_ | refine aw_block ?_ | refine aw_region ?_ | refine aw_skip ?_ | refine aw_exit ?_ | refine aw_ret ?_ | refine aw_label ?_ | refine aw_scope ?_ | refine aw_cond_t rfl (by with_reducible rfl) ?_ | refine aw_cond_f rfl (by with_reducible rfl) ?_ | refine aw_draw (by kernel_rfl) (by kernel_rfl) ?_) | (first | (refine ah_is ?_; (fail_if_success first | refine ah_glit (b := true) rfl rfl rfl (by with_reducible rfl) ?_ | refine ah_glit (b := false) rfl rfl rfl (by with_reducible rfl) ?_); apply ah_gt; (exact rfl); (exact rfl); (exact rfl); exact t_a) | ((refine ao_is ?_; (fail_if_success first | refine ao_glit (b := true) rfl rfl (by with_reducible rfl) ?_ | refine ao_glit (b := false) rfl rfl (by with_reducible rfl) ?_)); apply ao_gt; (exact rfl); (exact rfl); exact t_a) | ((refine aq_is ?_; (fail_if_success first | refine aq_glit (b := true) rfl rfl (by with_reducible rfl) ?_ | refine aq_glit (b := false) rfl rfl (by with_reducible rfl) ?_)); apply aq_gt; (exact rfl); (exact rfl); exact t_a) | (apply aw_ct; (exact rfl); exact t_a)) | (first | (refine ah_is ?_; (fail_if_success first | refine ah_glit (b := true) rfl rfl rfl (by with_reducible rfl) ?_ | refine ah_glit (b := false) rfl rfl rfl (by with_reducible rfl) ?_); apply ah_gf; (exact rfl); (exact rfl); (exact rfl); exact f_a) | ((refine ao_is ?_; (fail_if_success first | refine ao_glit (b := true) rfl rfl (by with_reducible rfl) ?_ | refine ao_glit (b := false) rfl rfl (by with_reducible rfl) ?_)); apply ao_gf; (exact rfl); (exact rfl); exact f_a) | ((refine aq_is ?_; (fail_if_success first | refine aq_glit (b := true) rfl rfl (by with_reducible rfl) ?_ | refine aq_glit (b := false) rfl rfl (by with_reducible rfl) ?_)); apply aq_gf; (exact rfl); (exact rfl); exact f_a) | (apply aw_cf; (exact rfl); exact f_a)) | refine at_normal ?_ | refine at_exit ?_ | refine at_ret ?_ | refine ib_normal ?_ | refine ib_exit ?_ | refine ib_other ?_ | refine ib_ret ?_ | refine lq_exit ?_ | refine lq_ret ?_ | refine ci_ret ?_ | refine ci_exit ?_ | refine r1_ret rfl ?_ | refine r1_normal rfl ?_ | refine r2_ret rfl rfl ?_ | refine r2_normal rfl rfl ?_ | refine r3_ret rfl rfl rfl ?_ | refine r3_normal rfl rfl rfl ?_ | refine ng_normal ?_ | refine ng_exit ?_ | refine ng_ret ?_ | (apply rt_ret; (exact rfl); (exact rfl); (exact rfl); exact has_a; exact has_a; (exact rfl); (exact rfl)) | (apply rc1_ret; (exact rfl); exact has_a; (exact rfl)) | (apply rc2_ret; (exact rfl); exact has_a; (exact rfl); (exact rfl)) | (refine ao_is ?_; (fail_if_success first | refine ao_glit (b := true) rfl rfl (by with_reducible rfl) ?_ | refine ao_glit (b := false) rfl rfl (by with_reducible rfl) ?_); refine ao_gbool rfl rfl (fun _ => ?_) (fun _ => ?_)) | (refine aq_is ?_; (fail_if_success first | refine aq_glit (b := true) rfl rfl (by with_reducible rfl) ?_ | refine aq_glit (b := false) rfl rfl (by with_reducible rfl) ?_); refine aq_gbool rfl rfl (fun _ => ?_) (fun _ => ?_)) | (refine aw_is ?_; refine aw_cond rfl (fun _ => ?_) (fun _ => ?_)))
        all_goals exact lq_normal' ⟨i + 1, _, _, putV outs e.1 (opI true (getV es e.1) e.2), rfl, by omega, (by assumption), by omega, hwp, hbo2, rfl, rfl⟩ (by omega) (by repeat (first | exact sub_nil | refine sub_cons rfl ?_)) hsub_a
    · have hbn : bothL less es es fs = none := by
        rw [← hbo]
        show (if inR (opI less (getV es e.1) e.2) = true then _ else _) = _
        rw [if_neg (by rw [← inR_iff, decide_eq_true_eq]; exact hin)]
      rw [hbn]
      cases less
      · have hok : (!(decide (inW (getV es e.1 + e.2)))) = true := by rw [decide_eq_false (show ¬ inW (getV es e.1 + e.2) from hin)]; rfl
        repeat' (first | (apply ao_nilh; exact hsub_a) | apply ao_nil | apply aq_nil | apply ah_end | ((first | apply ao_val | apply aq_val | (apply ah_take; (exact rfl))); exact wants_a; (first | exact ov_load_oa rfl hg cW rfl | exact ov_a); (exact rfl)) | ((first | apply ao_skip | apply aq_skip | (apply ah_skip; (exact rfl))); exact nots_a; (exact rfl)) | (refine ao_is ?_; first | (apply ao_new; exact wants_a; exact on_a; (exact rfl); intro _) | (apply ao_store; exact wants_a; exact ow_a; exact upd_a) | (apply ao_valw; exact wants_a; exact ox_a; (exact rfl); exact upd_a) | (apply ao_skip0; exact nots_a) | (apply ao_append; exact wants_a; (exact rfl); assumption; (exact rfl); exact cut_a; exact has_a; (exact rfl); (exact rfl); omega; omega; omega; (exact rfl); intro vr lr hr)) | ((first | apply ao_call | apply aq_call); exact wants_a; (first | exact oc_func rfl | exact oc_clos rfl rfl | exact oc_bnd rfl rfl); (exact rfl); (first | exact fun w hw => vget_ok v es e.1 hw1 w (hv.below hw.below) | exact fun w hw => raddV _ _ hgw hwe.2 w)) | (apply ah_one; (exact rfl)) | (apply ah_two; (exact rfl); (exact rfl)) | (apply ah_three; (exact rfl); (exact rfl); (exact rfl)) | (refine aw_is ?_; first | (apply aw_held (id := 10) (pl := (.t 0 (.t 1 (.t 2 (.t 3 (.t 4 (.t 5 (.w 6 (.t 7 (.t 8 (.t 9 (.o 10 (.o 11 (.t 12 .e)))))) 10 (.o 6 (.t 7 (.t 8 (.t 9 (.o 11 (.t 12 .e)))))))))))))); (kernel_rfl); (kernel_rfl); (kernel_rfl); (solve | (exact List.Sublist.refl _))) | refine aw_seq ?_ | refine aw_block ?_ | refine aw_region ?_ | refine aw_skip ?_ | refine aw_exit ?_ | refine aw_ret ?_ | refine aw_label ?_ | refine aw_scope ?_ | refine aw_cond_t rfl (by with_reducible rfl) ?_ | refine aw_cond_f rfl (by with_reducible rfl) ?_ | refine aw_draw (by kernel_rfl) (by kernel_rfl) ?_) | (first | (refine ah_is ?_; (fail_if_success first | refine ah_glit (b := true) rfl rfl rfl (by with_reducible rfl) ?_ | refine ah_glit (b := false) rfl rfl rfl (by with_reducible rfl) ?_); apply ah_gt; (exact rfl); (exact rfl); (exact rfl); exact t_a) | ((refine ao_is ?_; (fail_if_success first | refine ao_glit (b := true) rfl rfl (by with_reducible rfl) ?_ | refine ao_glit (b := false) rfl rfl (by with_reducible rfl) ?_)); apply ao_gt; (exact rfl); (exact rfl); exact t_a) | ((refine aq_is ?_; (fail_if_success first | refine aq_glit (b := true) rfl rfl (by with_reducible rfl) ?_ | refine aq_glit (b := false) rfl rfl (by with_reducible rfl) ?_)); apply aq_gt; (exact rfl); (exact rfl); exact t_a) | (apply aw_ct; (exact rfl); exact t_a)) | (first | (refine ah_is ?_; (fail_if_success first | refine ah_glit (b := true) rfl rfl rfl (by with_reducible rfl) ?_ | refine ah_glit (b := false) rfl rfl rfl (by with_reducible rfl) ?_); apply ah_gf; (exact rfl); (exact rfl); (exact rfl); exact f_a) | ((refine ao_is ?_; (fail_if_success first | refine ao_glit (b := true) rfl rfl (by with_reducible rfl) ?_ | refine ao_glit (b := false) rfl rfl (by with_reducible rfl) ?_)); apply ao_gf; (exact rfl); (exact rfl); exact f_a) | ((refine aq_is ?_; (fail_if_success first | refine aq_glit (b := true) rfl rfl (by with_reducible rfl) ?_ | refine aq_glit (b := false) rfl rfl (by with_reducible rfl) ?_)); apply aq_gf; (exact rfl); (exact rfl); exact f_a) | (apply aw_cf; (exact rfl); exact f_a)) | refine at_normal ?_ | refine at_exit ?_ | refine at_ret ?_ | refine ib_normal ?_ | refine ib_exit ?_ | refine ib_other ?_ | refine ib_ret ?_ | refine lq_exit ?_ | refine lq_ret ?_ | refine ci_ret ?_ | refine ci_exit ?_ | refine r1_ret rfl ?_ | refine r1_normal rfl ?_ | refine r2_ret rfl rfl ?_ | refine r2_normal rfl rfl ?_ | refine r3_ret rfl rfl rfl ?_ | refine r3_normal rfl rfl rfl ?_ | refine ng_normal ?_ | refine ng_exit ?_ | refine ng_ret ?_ | (apply rt_ret; (exact rfl); (exact rfl); (exact rfl); exact has_a; exact has_a; (exact rfl); (exact rfl)) | (apply rc1_ret; (exact rfl); exact has_a; (exact rfl)) | (apply rc2_ret; (exact rfl); exact has_a; (exact rfl); (exact rfl)) | (refine ao_is ?_; (fail_if_success first | refine ao_glit (b := true) rfl rfl (by with_reducible rfl) ?_ | refine ao_glit (b := false) rfl rfl (by with_reducible rfl) ?_); refine ao_gbool rfl rfl (fun _ => ?_) (fun _ => ?_)) | (refine aq_is ?_; (fail_if_success first | refine aq_glit (b := true) rfl rfl (by with_reducible rfl) ?_ | refine aq_glit (b := false) rfl rfl (by with_reducible rfl) ?_); refine aq_gbool rfl rfl (fun _ => ?_) (fun _ => ?_)) | (refine aw_is ?_; refine aw_cond rfl (fun _ => ?_) (fun _ => ?_)))
        all_goals exact fun w' hw => ⟨_, rfl, hw.below, _, RowB.nil, fun _ _ h => by cases h⟩
      · have hok : (!(decide (inW (getV es e.1 - e.2)))) = true := by rw [decide_eq_false (show ¬ inW (getV es e.1 - e.2) from hin)]; rfl
        repeat' (first | (apply ao_nilh; exact hsub_a) | apply ao_nil | apply aq_nil | apply ah_end | ((first | apply ao_val | apply aq_val | (apply ah_take; (exact rfl))); exact wants_a; (first | exact ov_load_oa rfl hg cW rfl | exact ov_a); (exact rfl)) | ((first | apply ao_skip | apply aq_skip | (apply ah_skip; (exact rfl))); exact nots_a; (exact rfl)) | (refine ao_is ?_; first | (apply ao_new; exact wants_a; exact on_a; (exact rfl); intro _) | (apply ao_store; exact wants_a; exact ow_a; exact upd_a) | (apply ao_valw; exact wants_a; exact ox_a; (exact rfl); exact upd_a) | (apply ao_skip0; exact nots_a) | (apply ao_append; exact wants_a; (exact rfl); assumption; (exact rfl); exact cut_a; exact has_a; (exact rfl); (exact rfl); omega; omega; omega; (exact rfl); intro vr lr hr)) | ((first | apply ao_call | apply aq_call); exact wants_a; (first | exact oc_func rfl | exact oc_clos rfl rfl | exact oc_bnd rfl rfl); (exact rfl); (first | exact fun w hw => vget_ok v es e.1 hw1 w (hv.below hw.below) | exact fun w hw => raddV _ _ hgw hwe.2 w | exact fun w hw => rsubV _ _ hgw hwe.2 w)) | (apply ah_one; (exact rfl)) | (apply ah_two; (exact rfl); (exact rfl)) | (apply ah_three; (exact rfl); (exact rfl); (exact rfl)) | (refine aw_is ?_; first | (apply aw_held (id := 10) (pl := (.t 0 (.t 1 (.t 2 (.t 3 (.t 4 (.t 5 (.w 6 (.t 7 (.t 8 (.t 9 (.o 10 (.o 11 (.t 12 .e)))))) 10 (.o 6 (.t 7 (.t 8 (.t 9 (.o 11 (.t 12 .e)))))))))))))); (kernel_rfl); (kernel_rfl); (kernel_rfl); (solve | (exact List.Sublist.refl _))) | (apply aw_held (id := 12) (pl := (.t 0 (.t 1 (.t 2 (.t 3 (.t 4 (.t 5 (.o 6 (.t 7 (.t 8 (.t 9 (.o 10 (.t 11 .e))))))))))))); (kernel_rfl); (kernel_rfl); (kernel_rfl); (solve | (apply hs_skip; exact List.Sublist.refl _))) | refine aw_seq ?_ | refine aw_block ?_ | refine aw_region ?_ | refine aw_skip ?_ | refine aw_exit ?_ | refine aw_ret ?_ | refine aw_label ?_ | refine aw_scope ?_ | refine aw_cond_t rfl (by with_reducible rfl) ?_ | refine aw_cond_f rfl (by with_reducible rfl) ?_ | refine aw_draw (by kernel_rfl) (by kernel_rfl) ?_) | (first | (refine ah_is ?_; (fail_if_success first | refine ah_glit (b := true) rfl rfl rfl (by with_reducible rfl) ?_ | refine ah_glit (b := false) rfl rfl rfl (by with_reducible rfl) ?_); apply ah_gt; (exact rfl); (exact rfl); (exact rfl); exact t_a) | ((refine ao_is ?_; (fail_if_success first | refine ao_glit (b := true) rfl rfl (by with_reducible rfl) ?_ | refine ao_glit (b := false) rfl rfl (by with_reducible rfl) ?_)); apply ao_gt; (exact rfl); (exact rfl); exact t_a) | ((refine aq_is ?_; (fail_if_success first | refine aq_glit (b := true) rfl rfl (by with_reducible rfl) ?_ | refine aq_glit (b := false) rfl rfl (by with_reducible rfl) ?_)); apply aq_gt; (exact rfl); (exact rfl); exact t_a) | (apply aw_ct; (exact rfl); exact t_a)) | (first | (refine ah_is ?_; (fail_if_success first | refine ah_glit (b := true) rfl rfl rfl (by with_reducible rfl) ?_ | refine ah_glit (b := false) rfl rfl rfl (by with_reducible rfl) ?_); apply ah_gf; (exact rfl); (exact rfl); (exact rfl); exact f_a) | ((refine ao_is ?_; (fail_if_success first | refine ao_glit (b := true) rfl rfl (by with_reducible rfl) ?_ | refine ao_glit (b := false) rfl rfl (by with_reducible rfl) ?_)); apply ao_gf; (exact rfl); (exact rfl); exact f_a) | ((refine aq_is ?_; (fail_if_success first | refine aq_glit (b := true) rfl rfl (by with_reducible rfl) ?_ | refine aq_glit (b := false) rfl rfl (by with_reducible rfl) ?_)); apply aq_gf; (exact rfl); (exact rfl); exact f_a) | (apply aw_cf; (exact rfl); exact f_a)) | refine at_normal ?_ | refine at_exit ?_ | refine at_ret ?_ | refine ib_normal ?_ | refine ib_exit ?_ | refine ib_other ?_ | refine ib_ret ?_ | refine lq_exit ?_ | refine lq_ret ?_ | refine ci_ret ?_ | refine ci_exit ?_ | refine r1_ret rfl ?_ | refine r1_normal rfl ?_ | refine r2_ret rfl rfl ?_ | refine r2_normal rfl rfl ?_ | refine r3_ret rfl rfl rfl ?_ | refine r3_normal rfl rfl rfl ?_ | refine ng_normal ?_ | refine ng_exit ?_ | refine ng_ret ?_ | (apply rt_ret; (exact rfl); (exact rfl); (exact rfl); exact has_a; exact has_a; (exact rfl); (exact rfl)) | (apply rc1_ret; (exact rfl); exact has_a; (exact rfl)) | (apply rc2_ret; (exact rfl); exact has_a; (exact rfl); (exact rfl)) | (refine ao_is ?_; (fail_if_success first | refine ao_glit (b := true) rfl rfl (by with_reducible rfl) ?_ | refine ao_glit (b := false) rfl rfl (by with_reducible rfl) ?_); refine ao_gbool rfl rfl (fun _ => ?_) (fun _ => ?_)) | (refine aq_is ?_; (fail_if_success first | refine aq_glit (b := true) rfl rfl (by with_reducible rfl) ?_ | refine aq_glit (b := false) rfl rfl (by with_reducible rfl) ?_); refine aq_gbool rfl rfl (fun _ => ?_) (fun _ => ?_)) | (refine aw_is ?_; refine aw_cond rfl (fun _ => ?_) (fun _ => ?_)))
        all_goals exact fun w' hw => ⟨_, rfl, hw.below, _, RowB.nil, fun _ _ h => by cases h⟩
  · obtain rfl : i = fs.length := by omega
    have hnil : fs.drop fs.length = [] := List.drop_eq_nil_of_le (by omega)
    rw [hnil] at hbo
    rw [← hbo]
    show aw _ _ _ _ _ _
    have hq2 : (match bothL less es outs [] with | some o => (o, (0 : Int)) | none => ([], 3)) = (outs, 0) := rfl
    rw [hq2]
    subst hu'
    repeat' (first | refine aw_seq ?_ | refine zz ?_ | refine zon fun _ => ?_ | refine zoa fun vr lr hr => ?_ | refine zoS (fun _ => ?_) (fun _ => ?_) | refine zqS (fun _ => ?_) (fun _ => ?_) | refine zwS (fun _ => ?_) (fun _ => ?_))
    exact fun w' hw => ⟨_, rfl, hw.below, _, hr, fun b o hm => hw.at_ b o (List.mem_append_left _ hm)⟩
set_option maxHeartbeats 1000000 in
theorem vadd_ok (v u : Value) (es fs : List Ent) (hw1 : wfV es) (hw2 : wfV fs) (hl1 : es.length ≤ 30000) (hl2 : fs.length ≤ 30000) (w : World) (hv : VecAt w v es) (hu : VecAt w u fs) :
    Calls Tryz.prog 20 #[v, u] w fun e w' => ∃ r, e = .returned (.tuple #[r, I (combV false es fs).2]) ∧ NewRow 96 3 w w' r (combV false es fs).1.length (vcells (combV false es fs).1) := by
  refine calls2 (args := [v, u]) Tryz.func20 rfl rfl rfl rfl ?_
  repeat' (first | refine aw_seq ?_ | refine zz ?_ | refine zon fun _ => ?_ | refine zoa fun vr lr hr => ?_ | (apply ao_callr2; exact wants_a; (exact oc_func rfl); (exact rfl); (first | exact fun w hw => vboth_ok v u es fs false hw1 hw2 hl1 hl2 w (hv.below hw.below) (hu.below hw.below)); intro vr lr hr) | refine zoS (fun _ => ?_) (fun _ => ?_) | refine zqS (fun _ => ?_) (fun _ => ?_) | refine zwS (fun _ => ?_) (fun _ => ?_))
  exact fun w' hw => ⟨_, rfl, hw.below, _, hr, fun b o hm => hw.at_ b o (List.mem_append_left _ hm)⟩
set_option maxHeartbeats 1000000 in
theorem vsub_ok (v u : Value) (es fs : List Ent) (hw1 : wfV es) (hw2 : wfV fs) (hl1 : es.length ≤ 30000) (hl2 : fs.length ≤ 30000) (w : World) (hv : VecAt w v es) (hu : VecAt w u fs) :
    Calls Tryz.prog 72 #[v, u] w fun e w' => ∃ r, e = .returned (.tuple #[r, I (combV true es fs).2]) ∧ NewRow 96 3 w w' r (combV true es fs).1.length (vcells (combV true es fs).1) := by
  refine calls2 (args := [v, u]) Tryz.func72 rfl rfl rfl rfl ?_
  repeat' (first | refine aw_seq ?_ | refine zz ?_ | refine zon fun _ => ?_ | refine zoa fun vr lr hr => ?_ | (apply ao_callr2; exact wants_a; (exact oc_func rfl); (exact rfl); (first | exact fun w hw => vboth_ok v u es fs true hw1 hw2 hl1 hl2 w (hv.below hw.below) (hu.below hw.below)); intro vr lr hr) | refine zoS (fun _ => ?_) (fun _ => ?_) | refine zqS (fun _ => ?_) (fun _ => ?_) | refine zwS (fun _ => ?_) (fun _ => ?_))
  exact fun w' hw => ⟨_, rfl, hw.below, _, hr, fun b o hm => hw.at_ b o (List.mem_append_left _ hm)⟩
end Vec
end Go.Proofs.YtkjjlppfomidbaaGreat
/- Vrest: Contracts of the document's answer for layer 4: Of, Within, Fits; conditions: at most 1,000 entries, names of at most 100,000 bytes, numbers of 128, of resources of 64 bits. -/
namespace Go.Proofs.YtkjjlppfomidbaaGreat
namespace Vec
open Go Go.RowKit Sx Wid Lab
attribute [local irreducible] Go.Calls
def okR (r : Ent) : Bool := rightB r.1 && decide (0 ≤ r.2)
def addR (v : List Ent) (r : Ent) : List Ent := putV v r.1 (getV v r.1 + r.2)
def ofV (rs : List Ent) : List Ent × Int :=
  if rs.all okR = true then (if rs.length ≤ 16 then (rs.foldl addR [], 0) else ([], 3)) else ([], 1)
theorem all_no {rs : List Ent} {i : Nat} {r : Ent} (hi : rs[i]? = some r) (h : okR r = false) : rs.all okR = false := by
  rw [List.all_eq_false]
  exact ⟨r, List.mem_of_getElem? hi, by rw [h]; decide⟩
theorem all_yes {rs : List Ent} (h : ∀ (j : Nat) (r : Ent), rs[j]? = some r → okR r = true) : rs.all okR = true := by
  rw [List.all_eq_true]
  intro r hr
  obtain ⟨j, hj⟩ := List.getElem?_of_mem hr
  exact h j r hj
theorem rofV (n : Int) (h0 : -9223372036854775808 ≤ n) (h1 : n ≤ 9223372036854775807) (w : World) : Calls Tryz.prog 140 #[I n] w fun e w' => e = .returned (WV n) ∧ Below w.heap.size w w' := by
  have hin : inW n := by unfold inW; omega
  have h := rof_ok n h0 h1 w
  have e1 : sHi n = (if n < 0 then -1 else 0) := by unfold sHi; rw [sN_in hin]; split <;> omega
  have e2 : sLo n = n % 18446744073709551616 := by unfold sLo; rw [sN_in hin]
  show Calls _ _ _ _ fun e w' => e = .returned (W2 (sHi n) (sLo n)) ∧ _
  rw [e1, e2]
  exact h
theorem rfitsV (x : Int) (hx : inW x) (w : World) : Calls Tryz.prog 76 #[WV x] w fun e w' => e = .returned (fitsV x) ∧ Below w.heap.size w w' := by
  have := rfits_ok (sHi x) (sLo x) (s_isW x) w
  rwa [s_num, sN_in hx] at this
theorem add_rng {v : List Ent} {r : Ent} {B : Int} (h : ∀ e ∈ v, 0 ≤ e.2 ∧ e.2 ≤ B) (hr : 0 ≤ r.2 ∧ r.2 ≤ 9223372036854775807) (hB : 0 ≤ B) : (0 ≤ getV v r.1 ∧ getV v r.1 ≤ B) ∧ ∀ e ∈ addR v r, 0 ≤ e.2 ∧ e.2 ≤ B + 9223372036854775807 := by
  have hg : 0 ≤ getV v r.1 ∧ getV v r.1 ≤ B := by
    by_cases h0 : getV v r.1 = 0
    · rw [h0]; omega
    · obtain ⟨e, he, -, h2⟩ := get_some h0
      rw [← h2]; exact h e he
  refine ⟨hg, fun e he => ?_⟩
  rcases put_mem he with ⟨rfl, -⟩ | he
  · exact ⟨by show 0 ≤ getV v r.1 + r.2; omega, by show getV v r.1 + r.2 ≤ _; omega⟩
  · have := h e he
    omega
set_option maxHeartbeats 8000000 in
theorem vof_ok (v : Value) (rs : List Ent) (hwf : wfR rs) (w : World) (hv : ResAt w v rs) :
    Calls Tryz.prog 112 #[v] w fun e w' => ∃ r, e = .returned (.tuple #[r, I (ofV rs).2]) ∧ NewRow 96 3 w w' r (ofV rs).1.length (vcells (ofV rs).1) := by
  have hln := hwf.1
  obtain ⟨a, c, rfl, hat⟩ := OldRow.cells cellsR_len hv
  refine calls2 (args := [.slice a rs.length c]) Tryz.func112 rfl rfl rfl rfl ?_
  repeat' (first | refine aw_seq ?_ | refine zz ?_ | refine zon fun _ => ?_ | refine zoa fun vr lr hr => ?_ | refine zoS (fun _ => ?_) (fun _ => ?_) | refine zqS (fun _ => ?_) (fun _ => ?_) | refine zwS (fun _ => ?_) (fun _ => ?_))
  refine aw_for (t0 := [(0, .slice a rs.length c), (4, .slice none 0 0), (5, I (0 : Nat))]) (fun q t H => ∃ (i : Nat), q = rs.length - i ∧ i ≤ rs.length ∧ (∀ j r, j < i → rs[j]? = some r → okR r = true) ∧ t = [(0, .slice a rs.length c), (4, .slice none 0 0), (5, I i)] ∧ H = []) ⟨0, rfl, by omega, fun j r h => by omega, rfl, rfl⟩ (by repeat (first | exact sub_nil | refine sub_cons rfl ?_)) ?_
  rintro q t H ⟨i, rfl, hi, hall, rfl, rfl⟩
  by_cases hlt : i < rs.length
  · obtain ⟨r, he⟩ := getI hlt
    obtain ⟨g, o, rfl, hg, hc⟩ := hat i r (i : Int) he rfl
    obtain ⟨c0, c1, -⟩ := res_cells hc
    have hwe := hwf.at he
    cases hr : rightB r.1
    · have hq : ofV rs = ([], 1) := by unfold ofV; rw [all_no he (by simp [okR, hr])]; rfl
      rw [hq]
      have hrr : ∀ w, Calls Tryz.prog 68 #[S r.1] w fun e w' => e = .returned (.bool false) ∧ Below w.heap.size w w' := fun w => hr ▸ rright_ok r.1 (by omega) w
      repeat' (first | refine aw_seq ?_ | refine zz ?_ | refine zon fun _ => ?_ | refine zoa fun vr lr hr => ?_ | ((first | apply ao_call | apply aq_call); exact wants_a; (first | exact oc_func rfl | exact oc_clos rfl rfl | exact oc_bnd rfl rfl); (exact rfl); (first | exact fun w hw => hrr w)) | refine zoS (fun _ => ?_) (fun _ => ?_) | refine zqS (fun _ => ?_) (fun _ => ?_) | refine zwS (fun _ => ?_) (fun _ => ?_))
      exact fun w' hw => ⟨_, rfl, hw.below, _, RowB.nil, fun _ _ h => by cases h⟩
    have hrr : ∀ w, Calls Tryz.prog 68 #[S r.1] w fun e w' => e = .returned (.bool true) ∧ Below w.heap.size w w' := fun w => hr ▸ rright_ok r.1 (by omega) w
    by_cases hn : r.2 < 0
    · have hq : ofV rs = ([], 1) := by unfold ofV; rw [all_no he (by simp [okR, hr]; omega)]; rfl
      rw [hq]
      repeat' (first | refine aw_seq ?_ | refine zz ?_ | refine zon fun _ => ?_ | refine zoa fun vr lr hr => ?_ | ((first | apply ao_call | apply aq_call); exact wants_a; (first | exact oc_func rfl | exact oc_clos rfl rfl | exact oc_bnd rfl rfl); (exact rfl); (first | exact fun w hw => hrr w)) | refine zoS (fun _ => ?_) (fun _ => ?_) | refine zqS (fun _ => ?_) (fun _ => ?_) | refine zwS (fun _ => ?_) (fun _ => ?_))
      exact fun w' hw => ⟨_, rfl, hw.below, _, RowB.nil, fun _ _ h => by cases h⟩
    · repeat' (first | refine aw_seq ?_ | refine zz ?_ | refine zon fun _ => ?_ | refine zoa fun vr lr hr => ?_ | ((first | apply ao_call | apply aq_call); exact wants_a; (first | exact oc_func rfl | exact oc_clos rfl rfl | exact oc_bnd rfl rfl); (exact rfl); (first | exact fun w hw => hrr w)) | refine zoS (fun _ => ?_) (fun _ => ?_) | refine zqS (fun _ => ?_) (fun _ => ?_) | refine zwS (fun _ => ?_) (fun _ => ?_))
      exact lq_normal ⟨i + 1, rfl, by omega, fun j x hj hx => by
        by_cases e1 : j = i
        · subst e1; rw [he] at hx; cases hx; simp [okR, hr]; omega
        · exact hall j x (by omega) hx, rfl, rfl⟩ (by omega) (by repeat (first | exact sub_nil | refine sub_cons rfl ?_))
  obtain rfl : i = rs.length := by omega
  have hall2 : rs.all okR = true := all_yes fun j r hj => hall j r (List.getElem?_eq_some_iff.1 hj).1 hj
  by_cases h16 : rs.length ≤ 16
  · have hq : ofV rs = (rs.foldl addR [], 0) := by unfold ofV; rw [if_pos hall2, if_pos h16]
    rw [hq]
    repeat' (first | refine aw_seq ?_ | refine zz ?_ | refine zon fun _ => ?_ | refine zoa fun vr lr hr => ?_ | refine zoS (fun _ => ?_) (fun _ => ?_) | refine zqS (fun _ => ?_) (fun _ => ?_) | refine zwS (fun _ => ?_) (fun _ => ?_))
    refine aw_for (t0 := [(0, .slice a rs.length c), (4, .slice none 0 0), (7, I (0 : Nat))]) (fun q t H => ∃ (i : Nat) (x : Value) (l : Hp) (outs : List Ent), q = rs.length - i ∧ i ≤ rs.length ∧ RowB 96 3 x l outs.length (vcells outs) ∧ outs.length ≤ i ∧ (∀ e ∈ outs, e.1.length ≤ 100000 ∧ inW e.2) ∧ (∀ e ∈ outs, 0 ≤ e.2 ∧ e.2 ≤ (i : Int) * 9223372036854775807) ∧ (rs.drop i).foldl addR outs = rs.foldl addR [] ∧ t = [(0, .slice a rs.length c), (4, x), (7, I i)] ∧ H = l ++ []) ⟨0, _, _, [], rfl, by omega, RowB.nil, by simp, fun _ h => by simp at h, fun _ h => by simp at h, rfl, rfl, rfl⟩ (by repeat (first | exact sub_nil | refine sub_cons rfl ?_)) ?_
    rintro q t H ⟨i, x, l, outs, rfl, hi, hr, hol, hwo, hrng, hfold, rfl, rfl⟩
    have hwfo : wfV outs := ⟨by omega, hwo⟩
    by_cases hlt : i < rs.length
    · obtain ⟨r, he⟩ := getI hlt
      obtain ⟨g, o, rfl, hg, hc⟩ := hat i r (i : Int) he rfl
      obtain ⟨c0, c1, -⟩ := res_cells hc
      have hwe := hwf.at he
      have hok := hall i r hlt he
      simp only [okR, Bool.and_eq_true, decide_eq_true_eq] at hok
      have hd : rs.drop i = r :: rs.drop (i + 1) := by
        have := List.drop_eq_getElem_cons hlt
        rw [this, (List.getElem?_eq_some_iff.1 he).2]
      rw [hd, List.foldl_cons] at hfold
      obtain ⟨⟨g0, g1⟩, hrng2⟩ := add_rng (B := (i : Int) * 9223372036854775807) hrng ⟨hok.2, hwe.2.2⟩ (by omega)
      have hin1 : inW (getV outs r.1) := by unfold inW; omega
      have hin2 : inW r.2 := by unfold inW; omega
      have hin3 : inW (getV outs r.1 + r.2) := by unfold inW; omega
      have hpl := (put_len (nm := r.1) (n := getV outs r.1 + r.2) outs (getV outs r.1 + r.2 == 0)).1
      have hpl' : (putV outs r.1 (getV outs r.1 + r.2)).length ≤ outs.length + 1 := hpl
      have hwp := wf_put (n := getV outs r.1 + r.2) hwo hwe.1 hin3
      repeat' (first | (apply ao_nilh; exact hsub_a) | apply ao_nil | apply aq_nil | apply ah_end | ((first | apply ao_val | apply aq_val | (apply ah_take; (exact rfl))); exact wants_a; exact ov_a; (exact rfl)) | ((first | apply ao_skip | apply aq_skip | (apply ah_skip; (exact rfl))); exact nots_a; (exact rfl)) | (refine ao_is ?_; first | (apply ao_new; exact wants_a; exact on_a; (exact rfl); intro _) | (apply ao_store; exact wants_a; exact ow_a; exact upd_a) | (apply ao_valw; exact wants_a; exact ox_a; (exact rfl); exact upd_a) | (apply ao_skip0; exact nots_a) | (apply ao_append; exact wants_a; (exact rfl); assumption; (exact rfl); exact cut_a; exact has_a; (exact rfl); (exact rfl); omega; omega; omega; (exact rfl); intro vr lr hr)) | ((first | apply ao_call | apply aq_call); exact wants_a; (first | exact oc_func rfl | exact oc_clos rfl rfl | exact oc_bnd rfl rfl); (exact rfl); (first | exact fun w hw => vget_ok _ outs r.1 hwfo w (hw.oldr (by assumption) cut_a) | exact fun w hw => rofV r.2 hwe.2.1 hwe.2.2 w | exact fun w hw => raddV _ _ hin1 hin2 w)) | (apply ao_callr; exact wants_a; (exact oc_func rfl); (exact rfl); (first | exact fun w hw => vput_ok _ outs r.1 _ hwfo hwe.1 hin3 w (hw.oldr (by assumption) cut_a)); intro vr lr hr) | (apply ah_one; (exact rfl)) | (apply ah_two; (exact rfl); (exact rfl)) | (apply ah_three; (exact rfl); (exact rfl); (exact rfl)) | (refine aw_is ?_; first | (apply aw_held (id := 13) (pl := (.t 0 (.t 1 (.t 2 (.t 3 (.t 4 (.t 5 (.t 7 (.t 8 (.t 9 (.t 10 (.t 11 (.w 6 (.w 12 (.w 13 (.t 14 (.t 15 (.t 16 (.o 17 (.o 18 (.t 19 .e)))))) 17 (.o 13 (.t 14 (.t 15 (.t 16 (.o 18 (.t 19 .e))))))) 17 (.o 12 (.o 13 (.t 14 (.t 15 (.t 16 (.o 18 (.t 19 .e)))))))) 17 (.o 6 (.o 12 (.o 13 (.t 14 (.t 15 (.t 16 (.o 18 (.t 19 .e))))))))))))))))))))); (kernel_rfl); (kernel_rfl); (kernel_rfl); (solve | (exact List.Sublist.refl _))) | (apply aw_held (id := 14) (pl := (.t 0 (.t 1 (.t 2 (.t 3 (.t 4 (.t 5 (.t 6 (.o 7 (.t 8 .e)))))))))); (kernel_rfl); (kernel_rfl); (kernel_rfl); (solve | (exact List.Sublist.refl _))) | refine aw_seq ?_ | refine aw_block ?_ | refine aw_region ?_ | refine aw_skip ?_ | refine aw_exit ?_ | refine aw_ret ?_ | refine aw_label ?_ | refine aw_scope ?_ | refine aw_cond_t rfl (by with_reducible rfl) ?_ | refine aw_cond_f rfl (by with_reducible rfl) ?_ | refine aw_draw (by kernel_rfl) (by kernel_rfl) ?_) | (first | (refine ah_is ?_; (fail_if_success first | refine ah_glit (b := true) rfl rfl rfl (by with_reducible rfl) ?_ | refine ah_glit (b := false) rfl rfl rfl (by with_reducible rfl) ?_); apply ah_gt; (exact rfl); (exact rfl); (exact rfl); exact t_a) | ((refine ao_is ?_; (fail_if_success first | refine ao_glit (b := true) rfl rfl (by with_reducible rfl) ?_ | refine ao_glit (b := false) rfl rfl (by with_reducible rfl) ?_)); apply ao_gt; (exact rfl); (exact rfl); exact t_a) | ((refine aq_is ?_; (fail_if_success first | refine aq_glit (b := true) rfl rfl (by with_reducible rfl) ?_ | refine aq_glit (b := false) rfl rfl (by with_reducible rfl) ?_)); apply aq_gt; (exact rfl); (exact rfl); exact t_a) | (apply aw_ct; (exact rfl); exact t_a)) | (first | (refine ah_is ?_; (fail_if_success first | refine ah_glit (b := true) rfl rfl rfl (by with_reducible rfl) ?_ | refine ah_glit (b := false) rfl rfl rfl (by with_reducible rfl) ?_); apply ah_gf; (exact rfl); (exact rfl); (exact rfl); exact f_a) | ((refine ao_is ?_; (fail_if_success first | refine ao_glit (b := true) rfl rfl (by with_reducible rfl) ?_ | refine ao_glit (b := false) rfl rfl (by with_reducible rfl) ?_)); apply ao_gf; (exact rfl); (exact rfl); exact f_a) | ((refine aq_is ?_; (fail_if_success first | refine aq_glit (b := true) rfl rfl (by with_reducible rfl) ?_ | refine aq_glit (b := false) rfl rfl (by with_reducible rfl) ?_)); apply aq_gf; (exact rfl); (exact rfl); exact f_a) | (apply aw_cf; (exact rfl); exact f_a)) | refine at_normal ?_ | refine at_exit ?_ | refine at_ret ?_ | refine ib_normal ?_ | refine ib_exit ?_ | refine ib_other ?_ | refine ib_ret ?_ | refine lq_exit ?_ | refine lq_ret ?_ | refine ci_ret ?_ | refine ci_exit ?_ | refine r1_ret rfl ?_ | refine r1_normal rfl ?_ | refine r2_ret rfl rfl ?_ | refine r2_normal rfl rfl ?_ | refine r3_ret rfl rfl rfl ?_ | refine r3_normal rfl rfl rfl ?_ | refine ng_normal ?_ | refine ng_exit ?_ | refine ng_ret ?_ | (apply rt_ret; (exact rfl); (exact rfl); (exact rfl); exact has_a; exact has_a; (exact rfl); (exact rfl)) | (apply rc1_ret; (exact rfl); exact has_a; (exact rfl)) | (apply rc2_ret; (exact rfl); exact has_a; (exact rfl); (exact rfl)) | (refine ao_is ?_; (fail_if_success first | refine ao_glit (b := true) rfl rfl (by with_reducible rfl) ?_ | refine ao_glit (b := false) rfl rfl (by with_reducible rfl) ?_); refine ao_gbool rfl rfl (fun _ => ?_) (fun _ => ?_)) | (refine aq_is ?_; (fail_if_success first | refine aq_glit (b := true) rfl rfl (by with_reducible rfl) ?_ | refine aq_glit (b := false) rfl rfl (by with_reducible rfl) ?_); refine aq_gbool rfl rfl (fun _ => ?_) (fun _ => ?_)) | (refine aw_is ?_; refine aw_cond rfl (fun _ => ?_) (fun _ => ?_)))
      all_goals exact lq_normal' ⟨i + 1, _, _, putV outs r.1 (getV outs r.1 + r.2), rfl, by omega, (by assumption), by omega, hwp, fun e he => ⟨(hrng2 e he).1, by have := (hrng2 e he).2; omega⟩, hfold, rfl, rfl⟩ (by omega) (by repeat (first | exact sub_nil | refine sub_cons rfl ?_)) hsub_a
    · obtain rfl : i = rs.length := by omega
      have hnil : rs.drop rs.length = [] := List.drop_eq_nil_of_le (by omega)
      rw [hnil, List.foldl_nil] at hfold
      rw [← hfold]
      repeat' (first | refine aw_seq ?_ | refine zz ?_ | refine zon fun _ => ?_ | refine zoa fun vr lr hr => ?_ | refine zoS (fun _ => ?_) (fun _ => ?_) | refine zqS (fun _ => ?_) (fun _ => ?_) | refine zwS (fun _ => ?_) (fun _ => ?_))
      exact fun w' hw => ⟨_, rfl, hw.below, _, hr, fun b o hm => hw.at_ b o (List.mem_append_left _ hm)⟩
  · have hq : ofV rs = ([], 3) := by unfold ofV; rw [if_pos hall2, if_neg h16]
    rw [hq]
    repeat' (first | refine aw_seq ?_ | refine zz ?_ | refine zon fun _ => ?_ | refine zoa fun vr lr hr => ?_ | refine zoS (fun _ => ?_) (fun _ => ?_) | refine zqS (fun _ => ?_) (fun _ => ?_) | refine zwS (fun _ => ?_) (fun _ => ?_))
    exact fun w' hw => ⟨_, rfl, hw.below, _, RowB.nil, fun _ _ h => by cases h⟩
def inI (x : Int) : Bool := decide (-9223372036854775808 ≤ x) && decide (x ≤ 9223372036854775807)
theorem fitsV_t {x : Int} (h : inI x = true) : fitsV x = .tuple #[I x, .bool true] := by
  simp only [inI, Bool.and_eq_true, decide_eq_true_eq] at h
  unfold fitsV; rw [if_pos h]
theorem fitsV_f {x : Int} (h : inI x = false) : fitsV x = .tuple #[I 0, .bool false] := by
  unfold fitsV; rw [if_neg]
  intro h2
  simp [inI, h2.1, h2.2] at h
def vfitsB (es : List Ent) : Bool := es.all (fun e => inI e.2) && rightV es
set_option maxHeartbeats 8000000 in
theorem vfits_ok (v : Value) (es : List Ent) (hw1 : wfV es) (w : World) (hv : VecAt w v es) :
    Calls Tryz.prog 43 #[v] w fun e w' => e = .returned (.bool (vfitsB es)) ∧ Below w.heap.size w w' := by
  have hln := hw1.1
  obtain ⟨a, c, hv', hat⟩ := OldRow.cells cellsE_len hv
  refine calls1 (args := [v]) Tryz.func43 rfl rfl rfl rfl ?_
  repeat' (first | refine aw_seq ?_ | refine zz ?_ | refine zon fun _ => ?_ | refine zoa fun vr lr hr => ?_ | refine zoS (fun _ => ?_) (fun _ => ?_) | refine zqS (fun _ => ?_) (fun _ => ?_) | refine zwS (fun _ => ?_) (fun _ => ?_))
  refine aw_for (t0 := [(0, v), (3, I (0 : Nat))]) (fun q t H => ∃ (i : Nat), q = es.length - i ∧ i ≤ es.length ∧ (∀ (j : Nat) (e : Ent), j < i → es[j]? = some e → inI e.2 = true) ∧ t = [(0, v), (3, I i)] ∧ H = []) ⟨0, rfl, by omega, fun j e h => by omega, rfl, rfl⟩ (by repeat (first | exact sub_nil | refine sub_cons rfl ?_)) ?_
  rintro q t H ⟨i, rfl, hi, hall, rfl, rfl⟩
  by_cases hlt : i < es.length
  · obtain ⟨e, he⟩ := getI hlt
    obtain ⟨g, o, rfl, hg, hc⟩ := hat i e (i : Int) he rfl
    obtain ⟨c0, -, -, cW, -⟩ := ent_cells hc
    have hwe := hw1.at he
    subst hv'
    cases hx : inI e.2
    · have hq : vfitsB es = false := by
        unfold vfitsB
        rw [show (es.all fun e => inI e.2) = false from List.all_eq_false.2 ⟨e, List.mem_of_getElem? he, by rw [hx]; decide⟩]
        rfl
      rw [hq]
      have hf : ∀ w, Calls Tryz.prog 76 #[WV e.2] w fun e w' => e = .returned (.tuple #[I 0, .bool false]) ∧ Below w.heap.size w w' := fun w => fitsV_f hx ▸ rfitsV e.2 hwe.2 w
      repeat' (first | refine aw_seq ?_ | ((first | apply ao_val | apply aq_val); exact wants_a; (first | exact ov_load_oa rfl hg cW rfl | exact ov_a); (exact rfl)) | refine zy ?_ | refine zon fun _ => ?_ | refine zoa fun vr lr hr => ?_ | ((first | apply ao_call | apply aq_call); exact wants_a; (first | exact oc_func rfl | exact oc_clos rfl rfl | exact oc_bnd rfl rfl); (exact rfl); (first | exact fun w hw => hf w)) | refine zoS (fun _ => ?_) (fun _ => ?_) | refine zqS (fun _ => ?_) (fun _ => ?_) | refine zwS (fun _ => ?_) (fun _ => ?_))
      exact fun w' hw => ⟨rfl, hw.below⟩
    · have hf : ∀ w, Calls Tryz.prog 76 #[WV e.2] w fun u w' => u = .returned (.tuple #[I e.2, .bool true]) ∧ Below w.heap.size w w' := fun w => fitsV_t hx ▸ rfitsV e.2 hwe.2 w
      repeat' (first | refine aw_seq ?_ | ((first | apply ao_val | apply aq_val); exact wants_a; (first | exact ov_load_oa rfl hg cW rfl | exact ov_a); (exact rfl)) | refine zy ?_ | refine zon fun _ => ?_ | refine zoa fun vr lr hr => ?_ | ((first | apply ao_call | apply aq_call); exact wants_a; (first | exact oc_func rfl | exact oc_clos rfl rfl | exact oc_bnd rfl rfl); (exact rfl); (first | exact fun w hw => hf w)) | refine zoS (fun _ => ?_) (fun _ => ?_) | refine zqS (fun _ => ?_) (fun _ => ?_) | refine zwS (fun _ => ?_) (fun _ => ?_))
      exact lq_normal ⟨i + 1, rfl, by omega, fun j x hj hx2 => by
        by_cases e1 : j = i
        · subst e1; rw [he] at hx2; cases hx2; exact hx
        · exact hall j x (by omega) hx2, rfl, rfl⟩ (by omega) (by repeat (first | exact sub_nil | refine sub_cons rfl ?_))
  · obtain rfl : i = es.length := by omega
    have hq : vfitsB es = rightV es := by
      unfold vfitsB
      rw [show (es.all fun e => inI e.2) = true from List.all_eq_true.2 fun x hx => by
        obtain ⟨j, hj⟩ := List.getElem?_of_mem hx
        exact hall j x (List.getElem?_eq_some_iff.1 hj).1 hj]
      exact Bool.true_and _
    rw [hq]
    subst hv'
    repeat' (first | refine aw_seq ?_ | refine zz ?_ | refine zon fun _ => ?_ | refine zoa fun vr lr hr => ?_ | ((first | apply ao_call | apply aq_call); exact wants_a; (first | exact oc_func rfl | exact oc_clos rfl rfl | exact oc_bnd rfl rfl); (exact rfl); (first | exact fun w hw => vright_ok _ es hw1 w (hv.below hw.below))) | refine zoS (fun _ => ?_) (fun _ => ?_) | refine zqS (fun _ => ?_) (fun _ => ?_) | refine zwS (fun _ => ?_) (fun _ => ?_))
    exact fun w' hw => ⟨rfl, hw.below⟩
end Vec
end Go.Proofs.YtkjjlppfomidbaaGreat
/- Vrtext: Contracts of the document's answer for layer 4: Text, find, Parse; conditions: at most 1,000 entries, names and texts of at most 100,000 bytes. -/
namespace Go.Proofs.YtkjjlppfomidbaaGreat
namespace Vec
open Go Go.RowKit Sx Wid Lab
attribute [local irreducible] Go.Calls
def txtN (X : Int) : List UInt8 := txt X (Qty.lenF 40 X.natAbs)
theorem txtN_is {X : Int} (h : inW X) : IsLen X.natAbs (Qty.lenF 40 X.natAbs) := Qty.lenF_is 40 _ (by
  unfold inW at h
  rw [show (10 : Int) ^ (40 + 1) = 100000000000000000000000000000000000000000 by decide]
  omega)
theorem txtN_len (X : Int) : (txtN X).length ≤ 42 := by
  unfold txtN
  rw [txt_len]
  have := Qty.lenF_le 40 X.natAbs
  split <;> omega
def pcE (e : Ent) : List UInt8 := e.1 ++ [61] ++ txtN e.2
def txtV : List Ent → List UInt8
  | [] => []
  | [e] => pcE e
  | e :: f :: r => pcE e ++ [44] ++ txtV (f :: r)
theorem pcE_len {e : Ent} (h : e.1.length ≤ 100000) : (pcE e).length ≤ 100043 := by
  have := txtN_len e.2
  simp only [pcE, List.length_append, List.length_cons, List.length_nil]
  omega
theorem txtV_len : ∀ (l : List Ent), (∀ e ∈ l, e.1.length ≤ 100000) → (txtV l).length ≤ l.length * 100044
  | [], _ => by simp [txtV]
  | [e], h => by
    have := pcE_len (h e List.mem_cons_self)
    simp only [txtV, List.length_cons, List.length_nil]
    omega
  | e :: f :: r, h => by
    have := pcE_len (h e List.mem_cons_self)
    have ih := txtV_len (f :: r) fun x hx => h x (List.mem_cons_of_mem _ hx)
    simp only [txtV, List.length_append, List.length_cons, List.length_nil] at ih ⊢
    omega
def textV (es : List Ent) : List UInt8 := if rightV es then txtV es else []
theorem take_snoc {es : List Ent} {i : Nat} {e : Ent} (h : es[i]? = some e) : es.take (i + 1) = es.take i ++ [e] := by
  rw [List.take_add_one, h]; rfl
end Vec
end Go.Proofs.YtkjjlppfomidbaaGreat
/- Vrparse: Contract of the document's Parse for layer 4; conditions: texts of at most 100,000 bytes. -/
namespace Go.Proofs.YtkjjlppfomidbaaGreat
namespace Vec
open Go Go.RowKit Sx Wid Lab
attribute [local irreducible] Go.Calls
def upB (out : List Ent) (m : Nm) : Bool := match out.getLast? with | none => true | some r => lt r.1 m
end Vec
end Go.Proofs.YtkjjlppfomidbaaGreat
