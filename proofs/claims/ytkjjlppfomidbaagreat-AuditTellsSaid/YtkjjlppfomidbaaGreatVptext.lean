/- Contract of the landed Text of layer 4; conditions: at most 1,000 entries, names of at most 100,000 bytes, numbers of 128 bits. -/
import Derived.Test.YtkjjlppfomidbaaGreatVwf
import Derived.Test.YtkjjlppfomidbaaGreatWrtext
import Derived.Test.YtkjjlppfomidbaaGreatShelf
namespace Go.Proofs.YtkjjlppfomidbaaGreat
namespace Vec
open Go Go.RowKit Sx Wid Lab
attribute [local irreducible] Go.Calls
theorem join_txt : ∀ (es : List Ent), Lib.join (es.map pcE) [44] = txtV es
  | [] => rfl
  | [e] => by rw [List.map_cons, List.map_nil, Lib.join_one]; rfl
  | e :: f :: r => by
    have ih := join_txt (f :: r)
    rw [List.map_cons, List.map_cons, Lib.join_cons] at *
    rw [txtV, ← ih]
    simp [Lib.joinTail]
theorem ptextV (x : Int) (hx : inW x) (w : World) : Calls Tryz.prog 56 #[WV x] w fun e w' => e = .returned (S (txtN x)) ∧ Below w.heap.size w w' := by
  have e1 : num (sHi x) (sLo x) = x := by rw [s_num, sN_in hx]
  have := Wid.text_ok (sHi x) (sLo x) (Qty.lenF 40 x.natAbs) (s_isW x) (by rw [e1]; exact txtN_is hx) w
  rwa [e1] at this
theorem join_ok (b c : Nat) (es : List Ent) (w : World) (hb : b < w.heap.size) (hold : OldRow w 1 (.slice (some ⟨b, 0, none⟩) es.length c) es.length (es.map fun e => S (pcE e))) (hc : es.length ≤ c) (hl : es.length ≤ 1000) (hn : ∀ e ∈ es, e.1.length ≤ 100000) :
    Calls Tryz.prog 57 #[.slice (some ⟨b, 0, none⟩) es.length c, S [44]] w fun e w' => e = .returned (S (txtV es)) ∧ Below w.heap.size w w' := by
  have hm : (es.map fun e => (⟨(pcE e).toArray⟩ : ByteArray)).map (·.data.toList) = es.map pcE := by rw [List.map_map]; rfl
  have hj : Lib.join ((es.map fun e => (⟨(pcE e).toArray⟩ : ByteArray)).map (·.data.toList)) ((⟨#[44]⟩ : ByteArray).data.toList) = txtV es := by rw [hm]; exact join_txt es
  have hlen := txtV_len es hn
  have h := Tryz.strings_Join b 0 c (es.map fun e => (⟨(pcE e).toArray⟩ : ByteArray)) ⟨#[44]⟩ w (fun j x hx => by
    rw [List.getElem?_map] at hx
    obtain ⟨e, he, rfl⟩ := Option.map_eq_some_iff.1 hx
    have hlt := (List.getElem?_eq_some_iff.1 he).1
    obtain ⟨g, o, c', hs, -, hcell⟩ := hold.open (by omega)
    cases hs
    exact hcell j _ (by rw [List.getElem?_map, he]; rfl)) hb (by rw [List.length_map]; omega) (by rw [List.length_map]; exact hc) (by rw [hj]; omega)
  rw [hj, List.length_map] at h
  exact h
theorem set_take {cs : List Value} {i k : Nat} {v : Value} (hk : k = i) (h : i < cs.length) : (cs.set k v).take (i + 1) = cs.take i ++ [v] := by
  subst hk
  rw [List.take_add_one, List.take_set_of_le (Nat.le_refl _)]
  simp [h]
set_option maxHeartbeats 8000000 in
theorem ptext_ok (v : Value) (es : List Ent) (hw1 : wfV es) (hl1 : es.length ≤ 1000) (w : World) (hv : VecAt w v es) :
    Calls Tryz.prog 30 #[v] w fun e w' => e = .returned (S (textV es)) ∧ Below w.heap.size w w' := by
  obtain ⟨a, c, rfl, hat⟩ := OldRow.cells cellsE_len hv
  refine calls1 (args := [.slice a es.length c]) Tryz.func30 rfl rfl rfl rfl ?_
  have hra : ∀ w', Below w.heap.size w w' → Calls Tryz.prog 51 #[.slice a es.length c] w' fun e w'' => e = .returned (.bool (rightV es)) ∧ Below w'.heap.size w' w'' := fun w' hb => pright_ok _ es hw1 w' (hv.below hb)
  cases h1 : rightV es
  · have hq : textV es = [] := by unfold textV; rw [h1]; rfl
    rw [hq]
    rw [h1] at hra
    repeat' (first | refine aw_seq ?_ | refine zz ?_ | refine zon fun _ => ?_ | refine zoa fun vr lr hr => ?_ | ((first | apply ao_call | apply aq_call); exact wants_a; (first | exact oc_func rfl | exact oc_clos rfl rfl | exact oc_bnd rfl rfl); (exact rfl); (first | exact fun w hw => hra w hw.below)) | refine zoS (fun _ => ?_) (fun _ => ?_) | refine zqS (fun _ => ?_) (fun _ => ?_) | refine zwS (fun _ => ?_) (fun _ => ?_))
    exact fun w' hw => ⟨rfl, hw.below⟩
  have hq : textV es = txtV es := by unfold textV; rw [h1]; rfl
  rw [hq]
  rw [h1] at hra
  repeat' (first | refine aw_seq ?_ | refine zz ?_ | refine zon fun _ => ?_ | refine zoa fun vr lr hr => ?_ | ((first | apply ao_call | apply aq_call); exact wants_a; (first | exact oc_func rfl | exact oc_clos rfl rfl | exact oc_bnd rfl rfl); (exact rfl); (first | exact fun w hw => hra w hw.below)) | refine zoS (fun _ => ?_) (fun _ => ?_) | refine zqS (fun _ => ?_) (fun _ => ?_) | refine zwS (fun _ => ?_) (fun _ => ?_))
  refine aw_for (t0 := [(3, .slice (some ⟨_, 0, none⟩) es.length es.length), (12, .slice a es.length c), (13, I es.length), (14, I (0 : Nat))]) (fun q t H => ∃ (b i : Nat) (cs : List Value), q = es.length - i ∧ i ≤ es.length ∧ cs.length = es.length ∧ cs.take i = (es.take i).map (fun e => S (pcE e)) ∧ t = [(3, .slice (some ⟨b, 0, none⟩) es.length es.length), (12, .slice a es.length c), (13, I es.length), (14, I i)] ∧ H = [(b, .cells cs.toArray 9 (0, 0))]) ⟨_, 0, _, rfl, by omega, by rw [List.length_replicate], rfl, rfl, rfl⟩ (by repeat (first | exact sub_nil | refine sub_cons rfl ?_)) ?_
  rintro q t H ⟨b, i, cs, rfl, hi, hcl, htk, rfl, rfl⟩
  by_cases hlt : i < es.length
  · obtain ⟨e, he⟩ := getI hlt
    obtain ⟨g, o, rfl, hg, hc⟩ := hat i e (i : Int) he rfl
    obtain ⟨-, -, -, -, cA⟩ := ent_cells hc
    have hwe := hw1.at he
    have hnl := txtN_len e.2
    repeat' (first | (apply ao_nilh; exact hsub_a) | apply ao_nil | apply aq_nil | apply ah_end | ((first | apply ao_val | apply aq_val | (apply ah_take; (exact rfl))); exact wants_a; (first | exact ov_load_oa rfl hg cA rfl | exact ov_a); (exact rfl)) | ((first | apply ao_skip | apply aq_skip | (apply ah_skip; (exact rfl))); exact nots_a; (exact rfl)) | (refine ao_is ?_; first | (apply ao_new; exact wants_a; exact on_a; (exact rfl); intro _) | (apply ao_store; exact wants_a; exact ow_a; exact upd_a) | (apply ao_valw; exact wants_a; exact ox_a; (exact rfl); exact upd_a) | (apply ao_skip0; exact nots_a) | (apply ao_append; exact wants_a; (exact rfl); assumption; (exact rfl); exact cut_a; exact has_a; (exact rfl); (exact rfl); omega; omega; omega; (exact rfl); intro vr lr hr)) | ((first | apply ao_call | apply aq_call); exact wants_a; (first | exact oc_func rfl | exact oc_clos rfl rfl | exact oc_bnd rfl rfl); (exact rfl); (first | exact fun w hw => ptextV e.2 hwe.2 w)) | (apply ah_one; (exact rfl)) | (apply ah_two; (exact rfl); (exact rfl)) | (apply ah_three; (exact rfl); (exact rfl); (exact rfl)) | (refine aw_is ?_; first | (apply aw_held (id := 7) (pl := (.t 0 (.t 1 (.t 2 (.t 3 (.t 4 (.t 5 (.t 6 (.o 7 (.t 8 (.t 9 (.o 10 .e)))))))))))); (kernel_rfl); (kernel_rfl); (kernel_rfl); (solve | (apply hs_keep; apply hs_skip; exact List.Sublist.refl _))) | refine aw_seq ?_ | refine aw_block ?_ | refine aw_region ?_ | refine aw_skip ?_ | refine aw_exit ?_ | refine aw_ret ?_ | refine aw_label ?_ | refine aw_scope ?_ | refine aw_cond_t rfl (by with_reducible rfl) ?_ | refine aw_cond_f rfl (by with_reducible rfl) ?_ | refine aw_draw (by kernel_rfl) (by kernel_rfl) ?_) | (first | (refine ah_is ?_; (fail_if_success first | refine ah_glit (b := true) rfl rfl rfl (by with_reducible rfl) ?_ | refine ah_glit (b := false) rfl rfl rfl (by with_reducible rfl) ?_); apply ah_gt; (exact rfl); (exact rfl); (exact rfl); exact t_a) | ((refine ao_is ?_; (fail_if_success first | refine ao_glit (b := true) rfl rfl (by with_reducible rfl) ?_ | refine ao_glit (b := false) rfl rfl (by with_reducible rfl) ?_)); apply ao_gt; (exact rfl); (exact rfl); exact t_a) | ((refine aq_is ?_; (fail_if_success first | refine aq_glit (b := true) rfl rfl (by with_reducible rfl) ?_ | refine aq_glit (b := false) rfl rfl (by with_reducible rfl) ?_)); apply aq_gt; (exact rfl); (exact rfl); exact t_a) | (apply aw_ct; (exact rfl); exact t_a)) | (first | (refine ah_is ?_; (fail_if_success first | refine ah_glit (b := true) rfl rfl rfl (by with_reducible rfl) ?_ | refine ah_glit (b := false) rfl rfl rfl (by with_reducible rfl) ?_); apply ah_gf; (exact rfl); (exact rfl); (exact rfl); exact f_a) | ((refine ao_is ?_; (fail_if_success first | refine ao_glit (b := true) rfl rfl (by with_reducible rfl) ?_ | refine ao_glit (b := false) rfl rfl (by with_reducible rfl) ?_)); apply ao_gf; (exact rfl); (exact rfl); exact f_a) | ((refine aq_is ?_; (fail_if_success first | refine aq_glit (b := true) rfl rfl (by with_reducible rfl) ?_ | refine aq_glit (b := false) rfl rfl (by with_reducible rfl) ?_)); apply aq_gf; (exact rfl); (exact rfl); exact f_a) | (apply aw_cf; (exact rfl); exact f_a)) | refine at_normal ?_ | refine at_exit ?_ | refine at_ret ?_ | refine ib_normal ?_ | refine ib_exit ?_ | refine ib_other ?_ | refine ib_ret ?_ | refine lq_exit ?_ | refine lq_ret ?_ | refine ci_ret ?_ | refine ci_exit ?_ | refine r1_ret rfl ?_ | refine r1_normal rfl ?_ | refine r2_ret rfl rfl ?_ | refine r2_normal rfl rfl ?_ | refine r3_ret rfl rfl rfl ?_ | refine r3_normal rfl rfl rfl ?_ | refine ng_normal ?_ | refine ng_exit ?_ | refine ng_ret ?_ | (apply rt_ret; (exact rfl); (exact rfl); (exact rfl); exact has_a; exact has_a; (exact rfl); (exact rfl)) | (apply rc1_ret; (exact rfl); exact has_a; (exact rfl)) | (apply rc2_ret; (exact rfl); exact has_a; (exact rfl); (exact rfl)) | (refine ao_is ?_; (fail_if_success first | refine ao_glit (b := true) rfl rfl (by with_reducible rfl) ?_ | refine ao_glit (b := false) rfl rfl (by with_reducible rfl) ?_); refine ao_gbool rfl rfl (fun _ => ?_) (fun _ => ?_)) | (refine aq_is ?_; (fail_if_success first | refine aq_glit (b := true) rfl rfl (by with_reducible rfl) ?_ | refine aq_glit (b := false) rfl rfl (by with_reducible rfl) ?_); refine aq_gbool rfl rfl (fun _ => ?_) (fun _ => ?_)) | (refine aw_is ?_; refine aw_cond rfl (fun _ => ?_) (fun _ => ?_)))
    all_goals exact lq_normal' ⟨b, i + 1, cs.set (0 + (i : Int).toNat * 1) (S (e.1 ++ [61] ++ txtN e.2)), rfl, by omega, by rw [List.length_set]; exact hcl, (by rw [set_take (i := i) (by omega) (by omega), htk, take_snoc he, List.map_append]; rfl), rfl, rfl⟩ (by omega) (by repeat (first | exact sub_nil | refine sub_cons rfl ?_)) hsub_a
  · obtain rfl : i = es.length := by omega
    rw [List.take_length] at htk
    have hrow : RowB 9 1 (.slice (some ⟨b, 0, none⟩) es.length es.length) [(b, .cells cs.toArray 9 (0, 0))] es.length (es.map fun e => S (pcE e)) :=
      ⟨by rw [List.length_map, Nat.mul_one], .inr ⟨b, es.length, cs.toArray, rfl, rfl, Nat.le_refl _, by simp [hcl], by simpa using htk⟩⟩
    repeat' (first | refine aw_seq ?_ | refine zz ?_ | refine zon fun _ => ?_ | refine zoa fun vr lr hr => ?_ | ((first | apply ao_call | apply aq_call); exact wants_a; (first | exact oc_func rfl | exact oc_clos rfl rfl | exact oc_bnd rfl rfl); (exact rfl); (first | exact fun w hw => join_ok b es.length es w (Array.getElem?_eq_some_iff.1 (hw.has has_a).2).1 (hw.oldr hrow cut_a) (Nat.le_refl _) hl1 (fun e he => (hw1.2 e he).1))) | refine zoS (fun _ => ?_) (fun _ => ?_) | refine zqS (fun _ => ?_) (fun _ => ?_) | refine zwS (fun _ => ?_) (fun _ => ?_))
    exact fun w' hw => ⟨rfl, hw.below⟩
end Vec
end Go.Proofs.YtkjjlppfomidbaaGreat
