/- Up to the root, as facts; the walk of TreeRoot of layer 11; conditions: none. -/
import Derived.Test.YtoeidecnfkogdaaTru
namespace Go.Proofs.Ytoeidecnfkogdaa
namespace Trt
open Go Go.RowKit Sx
attribute [local irreducible] Go.Calls

/-- What the law asks of a node's path. -/
theorem path_facts {t : Tr} (h : FitT t) {n : Nm} (hn : hasT t n = true) : 1 ≤ (pathT t n).length ∧ (pathT t n).length ≤ 8 ∧ (pathT t n)[0]? = some n ∧ (pathT t n)[(pathT t n).length - 1]? = some rootN ∧ ((pathT t n).length = 1 ↔ n = rootN) ∧
    pathT t (parT t n) = (pathT t n).drop 1 ∧ (pathT t n).Nodup := by
  obtain ⟨e, he, rfl⟩ := has_iff.1 hn
  have hp := h.wf.path he
  have hd := h.wf.deep e he
  have he2 := h.wf.ends 8 e he hd
  have hnd := h.wf.nodup 8 e he hd
  refine ⟨by rw [hp, List.length_cons]; omega, hd, by rw [hp]; rfl, by rw [← List.getLast?_eq_getElem?]; exact he2, ?_, by rw [h.wf.par he, hp]; rfl, hnd⟩
  constructor
  · intro h1
    rw [hp] at h1 he2
    rw [List.length_cons] at h1
    have h0 : pathT t e.2 = [] := List.eq_nil_of_length_eq_zero (by omega)
    rw [h0] at he2
    exact Option.some.inj he2
  · intro h1
    rw [h1, h.wf.path_root]
    rfl
theorem FitT.bl2 {t : Tr} (h : FitT t) (s : Nm) : (belowT t s).length ≤ 1000 := by
  unfold belowT
  rw [List.length_map]
  have := List.length_filter_le (fun e : Nm × Nm => decide (s ∈ pathT t e.1)) t
  have := h.len
  omega
theorem tail_old {E : Env} {H l R : Hp} {w : World} {e : TypeId} {v : Value} {P : List Nm} (h : RepH E H w) (hr : RowB e 1 v l P.length (P.flatMap cells1)) (hc : Cut H l R) (h1 : 1 ≤ P.length) : OldRow w 1 (tlS 1 v) (P.drop 1).length ((P.drop 1).flatMap cells1) := by
  obtain ⟨x, Q, rfl⟩ : ∃ x Q, P = x :: Q := by
    cases P with
    | nil => exact absurd h1 (by decide)
    | cons x Q => exact ⟨x, Q, rfl⟩
  have h2 : OldCap w 1 v (Q.length + 1) (cells1 x ++ Q.flatMap cells1) := ⟨h.oldr hr hc, hr.capd⟩
  have h3 := h2.tail
  exact h3.1
set_option maxHeartbeats 64000000 in
theorem root_ok (v : Value) (xs : List Ac) (hn : ∀ a ∈ xs, 0 ≤ a.kind) (w : World) (hv : OldRow w 3 v xs.length (xs.flatMap cellsA)) : Calls Try.prog 4 #[v] w fun e w' => e = .returned (.bool true) ∧ Below w.heap.size w w' := by
  have hfit := fun w' (hb : Below w.heap.size w w') => fits11_ok v xs w' (OldRow.below hv hb)
  obtain ⟨a, cp, rfl, hat⟩ := OldRow.cells cellsA_len hv
  refine calls1 (args := [.slice a xs.length cp]) Try.func4 rfl rfl rfl rfl ?_
  cases hq : fitA xs
  · rw [hq] at hfit
    repeat' (first | refine aw_seq ?_ | refine zz ?_ | refine zon fun _ => ?_ | refine zoa fun vr lr hr => ?_ | ((first | apply ao_call | apply aq_call); exact wants_a; (first | exact oc_func rfl | exact oc_clos rfl rfl | exact oc_bnd rfl rfl); (exact rfl); (first | exact fun w hw => hfit w hw.below | exact fun w hw => alive_ok w)) | refine zoS (fun _ => ?_) (fun _ => ?_) | refine zqS (fun _ => ?_) (fun _ => ?_) | refine zwS (fun _ => ?_) (fun _ => ?_))
    exact fun w' hw => ⟨rfl, hw.below⟩
  rw [hq] at hfit
  obtain ⟨h60, hks⟩ := fitA_wf hq
  repeat' (first | refine aw_seq ?_ | refine zz ?_ | refine zon fun _ => ?_ | refine zoa fun vr lr hr => ?_ | ((first | apply ao_call | apply aq_call); exact wants_a; (first | exact oc_func rfl | exact oc_clos rfl rfl | exact oc_bnd rfl rfl); (exact rfl); (first | exact fun w hw => hfit w hw.below)) | ((apply ao_callD; exact wants_a; (exact oc_func rfl); (exact rfl); (intro w hw; exact tnew_ok w); intro vr lr hr; obtain ⟨g, hvr, hL⟩ := hr; subst hvr)) | refine zoS (fun _ => ?_) (fun _ => ?_) | refine zqS (fun _ => ?_) (fun _ => ?_) | refine zwS (fun _ => ?_) (fun _ => ?_))
  refine aw_for (t0 := [(0, .slice a xs.length cp), (4, .pointer (some ⟨g, 0, none⟩)), (5, I (0 : Nat))]) (fun q t H => ∃ (i : Nat) (tr : Tr) (l : Hp), q = xs.length - i ∧ i ≤ xs.length ∧ LTr tr g l ∧ FitT tr ∧
      t = [(0, .slice a xs.length cp), (4, .pointer (some ⟨g, 0, none⟩)), (5, I i)] ∧ H = l ++ [])
    ⟨0, Tr.new, lr, rfl, by omega, hL, FitT.new, rfl, rfl⟩ (by repeat (first | exact sub_nil | refine sub_cons rfl ?_)) ?_
  clear hL
  rintro q t H ⟨i, tr, l, rfl, hi, hL, hF, rfl, rfl⟩
  by_cases hlt : i < xs.length
  · obtain ⟨⟨kind, n, o⟩, he⟩ := getP hlt
    have m1 := List.mem_of_getElem? he
    have hk0 := hn _ m1
    have hkk := hks _ m1
    obtain ⟨ga, o1, rfl, hg, hc⟩ := hat i _ (i : Int) he rfl
    have cA : ∀ (j : Nat) z, [.int .u8 kind, S n, S o][j]? = some z → w.cell? ⟨ga, o1 + (i : Int).toNat * 3 + j, none⟩ = some z := hc
    have hdo := fun m R => ldo_ok (m := m) (w0 := w) hL hF ⟨kind, n, o⟩ hk0 hkk R
    have hF2 := fit_doT hF kind hkk.1 o
    unfold LDid at hdo
    simp only at hdo hF2
    generalize doT (Lab.rightB n) tr kind n o = X at hdo hF2
    obtain ⟨er, t2⟩ := X
    simp only at hdo hF2
    repeat' (first | refine aw_seq ?_ | ((first | apply ao_val | apply aq_val); exact wants_a; (first | exact ov_load_oa rfl hg cA rfl | exact ov_a); (exact rfl)) | refine zy ?_ | refine zon fun _ => ?_ | refine zoa fun vr lr hr => ?_ | ((apply ao_callH (l := l); exact wants_a; (exact oc_func rfl); (exact rfl); (exact Cut.here); (exact hdo _ _); rintro _ _ ⟨rfl, l2, rfl, hL2⟩)) | refine zoS (fun _ => ?_) (fun _ => ?_) | refine zqS (fun _ => ?_) (fun _ => ?_) | refine zwS (fun _ => ?_) (fun _ => ?_))
    exact lq_normal' ⟨i + 1, t2, l2, rfl, by omega, hL2, hF2, rfl, rfl⟩ (by omega) (by repeat (first | exact sub_nil | refine sub_cons rfl ?_)) hsub_a
  · obtain rfl : i = xs.length := by omega
    clear hlt hi hat hfit hks hq hv hn
    have hal := fun w' (hl : Lies w' l) => tall_ok hL hF w' hl
    have hll : (tr.map (·.1)).length ≤ 200 := by rw [List.length_map]; exact hF.len
    have hhas : ∀ (i : Nat) n, (tr.map (·.1))[i]? = some n → hasT tr n = true := fun i n h => by
      obtain ⟨e, he, h1⟩ := List.mem_map.1 (List.mem_of_getElem? h)
      exact has_iff.2 ⟨e, he, h1⟩
    have hrr : hasT tr rootN = true := has_iff.2 ⟨_, hF.wf.root, rfl⟩
    have hlp : 0 < (tr.map (·.1)).length := by rw [List.length_map]; exact hF.pos
    generalize tr.map (·.1) = L at hal hll hhas hlp
    repeat' (first | refine aw_seq ?_ | refine zz ?_ | refine zon fun _ => ?_ | refine zoa fun vr lr hr => ?_ | (apply ao_callr; exact wants_a; (exact oc_func rfl); (exact rfl); (first | exact fun w hw => hal w (lies_of hw (l := l) cut_a)); intro vr lr hr) | refine zoS (fun _ => ?_) (fun _ => ?_) | refine zqS (fun _ => ?_) (fun _ => ?_) | refine zwS (fun _ => ?_) (fun _ => ?_))
    revert vr lr hr
    intro v6 l6 r6
    obtain ⟨gL, capL, csL, rfl, rfl, -, -, -, hcL⟩ := openB cells1_len r6 hlp
    refine aw_forH (t0 := [(4, .pointer (some ⟨g, 0, none⟩)), (6, .slice (some ⟨gL, 0, none⟩) L.length capL), (7, I (0 : Nat))]) (fun q t H => ∃ i : Nat, q = L.length - i ∧ i ≤ L.length ∧ t = [(4, .pointer (some ⟨g, 0, none⟩)), (6, .slice (some ⟨gL, 0, none⟩) L.length capL), (7, I i)] ∧ H = [(gL, .cells csL.toArray 9 (0, 0))] ++ (l ++ [])) ⟨0, rfl, by omega, rfl, rfl⟩ (by repeat (first | exact sub_nil | refine sub_cons rfl ?_)) hsub_a ?_
    rintro q t H ⟨i, rfl, hi, rfl, rfl⟩
    by_cases hlt : i < L.length
    · obtain ⟨nm, he⟩ := getP hlt
      have cL : csL[0 + (i : Int).toNat * 1]? = some (S nm) := hcL i _ (i : Int) 0 _ he rfl rfl
      have hnm := hhas i nm he
      have hpa := fun w' (hl : Lies w' l) => tpath_ok hL hF nm w' hl
      have hpr := fun w' (hl : Lies w' l) => tpar_ok hL hF nm w' hl
      have hup := fun w' (hl : Lies w' l) => tpath_ok hL hF (parT tr nm) w' hl
      obtain ⟨q1, q2, q3, q4, q5, q6, q7⟩ := path_facts hF hnm
      rw [q6] at hup
      have hbi : ∀ x, nm ∈ belowT tr x ↔ x ∈ pathT tr nm := fun x => below_iff hnm
      generalize pathT tr nm = P at hpa hup q1 q2 q3 q4 q5 q7 hbi
      clear q6
      have b1 : (nm != nm) = false := bne_self_eq_false _
      have b3 : (!(((P.length : Int) == 1) == (nm == rootN))) = false := by
        by_cases h1 : nm = rootN
        · rw [beq_iff_eq.2 h1, beq_iff_eq.2 (show (P.length : Int) = 1 by have := q5.2 h1; omega)]; rfl
        · rw [beq_eq_false_iff_ne.2 h1, beq_eq_false_iff_ne.2 (show (P.length : Int) ≠ 1 from fun h => h1 (q5.1 (by omega)))]; rfl
      have e1 := same_ok (P.drop 1) (by rw [List.length_drop]; omega)
      repeat' (first | (apply ao_nilh; exact hsub_a) | apply ao_nil | apply aq_nil | apply ah_end | ((first | apply ao_val | apply aq_val | (apply ah_take; (exact rfl))); exact wants_a; (first | exact ov_sltail rfl rfl (by omega) | exact ov_a); (exact rfl)) | ((first | apply ao_skip | apply aq_skip | (apply ah_skip; (exact rfl))); exact nots_a; (exact rfl)) | (refine ao_is ?_; first | (apply ao_new; exact wants_a; exact on_a; (exact rfl); intro _) | (apply ao_store; exact wants_a; exact ow_a; exact upd_a) | (apply ao_valw; exact wants_a; exact ox_a; (exact rfl); exact upd_a) | (apply ao_skip0; exact nots_a) | (apply ao_append; exact wants_a; (exact rfl); assumption; (exact rfl); exact cut_a; exact has_a; (exact rfl); (exact rfl); omega; omega; omega; (exact rfl); intro vr lr hr)) | ((first | apply ao_call | apply aq_call); exact wants_a; (first | exact oc_func rfl | exact oc_clos rfl rfl | exact oc_bnd rfl rfl); (exact rfl); (first | exact fun w hw => e1 _ _ w (tail_old hw r7 cut_a q1) (hw.oldr (by assumption) cut_a) | exact fun w hw => hpr w (lies_of hw (l := l) cut_a))) | (apply ao_callr; exact wants_a; (exact oc_func rfl); (exact rfl); (first | exact fun w hw => hup w (lies_of hw (l := l) cut_a)); intro vr lr hr) | ((apply ao_callr; exact wants_a; (exact oc_func rfl); (exact rfl); (intro w hw; exact hpa w (lies_of hw (l := l) cut_a)); intro v7 l7 r7; obtain ⟨gP, capP, csP, hzP, hlP, -, -, -, hcP⟩ := openB cells1_len r7 (by omega); subst hzP; subst hlP ; have d0 := hcP 0 _ (0 : Int) 0 _ q3 rfl rfl; have dl := hcP _ _ ((P.length : Int) - 1) 0 _ q4 (by omega) rfl)) | (apply ah_one; (exact rfl)) | (apply ah_two; (exact rfl); (exact rfl)) | (apply ah_three; (exact rfl); (exact rfl); (exact rfl)) | (refine aw_is ?_; first | refine aw_cutI_at (id := 19) (fun tm H => tm = [(4, .pointer (some ⟨g, 0, none⟩)), (6, .slice (some ⟨gL, 0, none⟩) L.length capL), (7, I i), (8, .slice (some ⟨gP, 0, none⟩) P.length capP)] ∧ H = (gP, .cells csP.toArray 9 (0, 0)) :: ((gL, .cells csL.toArray 9 (0, 0)) :: (l ++ []))) ?_ ?_ | refine aw_cutI_at2 (id := 19) (fun tm H => tm = [(4, .pointer (some ⟨g, 0, none⟩)), (6, .slice (some ⟨gL, 0, none⟩) L.length capL), (7, I i), (8, .slice (some ⟨gP, 0, none⟩) P.length capP)] ∧ H = (gP, .cells csP.toArray 9 (0, 0)) :: ((gL, .cells csL.toArray 9 (0, 0)) :: (l ++ []))) ?_ ?_ | (apply aw_held (id := 14) (pl := (.t 0 (.o 1 (.t 2 (.t 3 (.t 4 (.o 5 (.t 6 (.t 7 (.t 8 (.t 9 (.t 10 (.t 11 (.t 12 (.t 13 (.t 14 (.t 15 (.t 16 (.t 17 (.t 18 (.t 19 (.t 20 (.o 21 (.t 22 (.t 23 (.t 24 (.t 25 (.t 26 (.t 27 (.t 28 (.t 31 (.t 32 (.t 33 (.t 34 (.t 35 (.o 29 (.t 30 (.t 36 (.t 37 .e))))))))))))))))))))))))))))))))))))))); (kernel_rfl); (kernel_rfl); (kernel_rfl); (solve | (exact List.Sublist.refl _))) | (apply aw_held (id := 16) (pl := (.t 0 (.t 1 (.t 2 (.t 3 (.t 4 (.t 5 (.t 6 (.t 7 (.o 8 (.o 9 (.o 10 (.t 11 .e))))))))))))); (kernel_rfl); (kernel_rfl); (kernel_rfl); (solve | (exact List.Sublist.refl _))) | refine aw_seq ?_ | refine aw_block ?_ | refine aw_region ?_ | refine aw_skip ?_ | refine aw_exit ?_ | refine aw_ret ?_ | refine aw_label ?_ | refine aw_scope ?_ | refine aw_cond_t rfl (by with_reducible rfl) ?_ | refine aw_cond_f rfl (by with_reducible rfl) ?_ | refine aw_draw (by kernel_rfl) (by kernel_rfl) ?_) | (first | (refine ah_is ?_; (fail_if_success first | refine ah_glit (b := true) rfl rfl rfl (by with_reducible rfl) ?_ | refine ah_glit (b := false) rfl rfl rfl (by with_reducible rfl) ?_); apply ah_gt; (exact rfl); (exact rfl); (exact rfl); exact t_a) | ((refine ao_is ?_; (fail_if_success first | refine ao_glit (b := true) rfl rfl (by with_reducible rfl) ?_ | refine ao_glit (b := false) rfl rfl (by with_reducible rfl) ?_)); apply ao_gt; (exact rfl); (exact rfl); exact t_a) | ((refine aq_is ?_; (fail_if_success first | refine aq_glit (b := true) rfl rfl (by with_reducible rfl) ?_ | refine aq_glit (b := false) rfl rfl (by with_reducible rfl) ?_)); apply aq_gt; (exact rfl); (exact rfl); exact t_a) | (apply aw_ct; (exact rfl); exact t_a)) | (first | (refine ah_is ?_; (fail_if_success first | refine ah_glit (b := true) rfl rfl rfl (by with_reducible rfl) ?_ | refine ah_glit (b := false) rfl rfl rfl (by with_reducible rfl) ?_); apply ah_gf; (exact rfl); (exact rfl); (exact rfl); exact f_a) | ((refine ao_is ?_; (fail_if_success first | refine ao_glit (b := true) rfl rfl (by with_reducible rfl) ?_ | refine ao_glit (b := false) rfl rfl (by with_reducible rfl) ?_)); apply ao_gf; (exact rfl); (exact rfl); exact f_a) | ((refine aq_is ?_; (fail_if_success first | refine aq_glit (b := true) rfl rfl (by with_reducible rfl) ?_ | refine aq_glit (b := false) rfl rfl (by with_reducible rfl) ?_)); apply aq_gf; (exact rfl); (exact rfl); exact f_a) | (apply aw_cf; (exact rfl); exact f_a)) | refine at_normal ?_ | refine at_exit ?_ | refine at_ret ?_ | refine ib_normal ?_ | refine ib_exit ?_ | refine ib_other ?_ | refine ib_ret ?_ | refine lq_exit ?_ | refine lq_ret ?_ | refine ci_ret ?_ | refine ci_exit ?_ | refine r1_ret rfl ?_ | refine r1_normal rfl ?_ | refine r2_ret rfl rfl ?_ | refine r2_normal rfl rfl ?_ | refine r3_ret rfl rfl rfl ?_ | refine r3_normal rfl rfl rfl ?_ | refine ng_normal ?_ | refine ng_exit ?_ | refine ng_ret ?_ | (apply rt_ret; (exact rfl); (exact rfl); (exact rfl); exact has_a; exact has_a; (exact rfl); (exact rfl)) | (apply rc1_ret; (exact rfl); exact has_a; (exact rfl)) | (apply rc2_ret; (exact rfl); exact has_a; (exact rfl); (exact rfl)) | (refine ao_is ?_; (fail_if_success first | refine ao_glit (b := true) rfl rfl (by with_reducible rfl) ?_ | refine ao_glit (b := false) rfl rfl (by with_reducible rfl) ?_); refine ao_gbool rfl rfl (fun _ => ?_) (fun _ => ?_)) | (refine aq_is ?_; (fail_if_success first | refine aq_glit (b := true) rfl rfl (by with_reducible rfl) ?_ | refine aq_glit (b := false) rfl rfl (by with_reducible rfl) ?_); refine aq_gbool rfl rfl (fun _ => ?_) (fun _ => ?_)) | (refine aw_is ?_; refine aw_cond rfl (fun _ => ?_) (fun _ => ?_)))
      · exact ci_normal ⟨rfl, rfl⟩ (by repeat (first | exact sub_nil | refine sub_cons rfl ?_)) hsub_a
      · exact ci_normal ⟨rfl, rfl⟩ (by repeat (first | exact sub_nil | refine sub_cons rfl ?_)) hsub_a
      rintro _ _ ⟨rfl, rfl⟩
      clear hpa hup hpr e1 b1 b3 d0 dl hal
      repeat' (first | refine aw_seq ?_ | refine zz ?_ | refine zon fun _ => ?_ | refine zoa fun vr lr hr => ?_ | refine zoS (fun _ => ?_) (fun _ => ?_) | refine zqS (fun _ => ?_) (fun _ => ?_) | refine zwS (fun _ => ?_) (fun _ => ?_))
      refine aw_for (t0 := [(4, .pointer (some ⟨g, 0, none⟩)), (6, .slice (some ⟨gL, 0, none⟩) L.length capL), (7, I i), (8, .slice (some ⟨gP, 0, none⟩) P.length capP), (10, I (0 : Nat))]) (fun q tm H => ∃ k : Nat, q = P.length - k ∧ k ≤ P.length ∧ tm = [(4, .pointer (some ⟨g, 0, none⟩)), (6, .slice (some ⟨gL, 0, none⟩) L.length capL), (7, I i), (8, .slice (some ⟨gP, 0, none⟩) P.length capP), (10, I k)] ∧ H = (gP, .cells csP.toArray 9 (0, 0)) :: ((gL, .cells csL.toArray 9 (0, 0)) :: (l ++ []))) ⟨0, rfl, by omega, rfl, rfl⟩ (by repeat (first | exact sub_nil | refine sub_cons rfl ?_)) ?_
      rintro _ _ _ ⟨k, rfl, hk, rfl, rfl⟩
      by_cases hkl : k < P.length
      · obtain ⟨x, hx⟩ := getP hkl
        have cX : csP[0 + (k : Int).toNat * 1]? = some (S x) := hcP k _ (k : Int) 0 _ hx rfl rfl
        repeat' (first | refine aw_seq ?_ | refine zz ?_ | refine zon fun _ => ?_ | refine zoa fun vr lr hr => ?_ | refine zoS (fun _ => ?_) (fun _ => ?_) | refine zqS (fun _ => ?_) (fun _ => ?_) | refine zwS (fun _ => ?_) (fun _ => ?_))
        refine aw_for (t0 := [(4, .pointer (some ⟨g, 0, none⟩)), (6, .slice (some ⟨gL, 0, none⟩) L.length capL), (7, I i), (8, .slice (some ⟨gP, 0, none⟩) P.length capP), (10, I k), (11, I (0 : Nat))]) (fun q tm H => ∃ n : Nat, q = k - n ∧ n ≤ k ∧ tm = [(4, .pointer (some ⟨g, 0, none⟩)), (6, .slice (some ⟨gL, 0, none⟩) L.length capL), (7, I i), (8, .slice (some ⟨gP, 0, none⟩) P.length capP), (10, I k), (11, I n)] ∧ H = (gP, .cells csP.toArray 9 (0, 0)) :: ((gL, .cells csL.toArray 9 (0, 0)) :: (l ++ []))) ⟨0, rfl, by omega, rfl, rfl⟩ (by repeat (first | exact sub_nil | refine sub_cons rfl ?_)) ?_
        rintro _ _ _ ⟨n, rfl, hnk, rfl, rfl⟩
        by_cases hnl : n < k
        · obtain ⟨y, hy⟩ := getP (show n < P.length by omega)
          have cY : csP[0 + (n : Int).toNat * 1]? = some (S y) := hcP n _ (n : Int) 0 _ hy rfl rfl
          have hne : (y == x) = false := beq_eq_false_iff_ne.2 fun e => by
            subst e
            have := (List.getElem?_inj (show n < P.length by omega) q7).1 (hy.trans hx.symm)
            omega
          repeat' (first | refine aw_seq ?_ | refine zz ?_ | refine zon fun _ => ?_ | refine zoa fun vr lr hr => ?_ | refine zoS (fun _ => ?_) (fun _ => ?_) | refine zqS (fun _ => ?_) (fun _ => ?_) | refine zwS (fun _ => ?_) (fun _ => ?_))
          exact lq_normal' ⟨n + 1, rfl, by omega, rfl, rfl⟩ (by omega) (by repeat (first | exact sub_nil | refine sub_cons rfl ?_)) hsub_a
        · obtain rfl : n = k := by omega
          repeat' (first | refine aw_seq ?_ | refine zz ?_ | refine zon fun _ => ?_ | refine zoa fun vr lr hr => ?_ | refine zoS (fun _ => ?_) (fun _ => ?_) | refine zqS (fun _ => ?_) (fun _ => ?_) | refine zwS (fun _ => ?_) (fun _ => ?_))
          exact lq_normal' ⟨n + 1, rfl, by omega, rfl, rfl⟩ (by omega) (by repeat (first | exact sub_nil | refine sub_cons rfl ?_)) hsub_a
      · obtain rfl : k = P.length := by omega
        repeat' (first | refine aw_seq ?_ | refine zz ?_ | refine zon fun _ => ?_ | refine zoa fun vr lr hr => ?_ | refine zoS (fun _ => ?_) (fun _ => ?_) | refine zqS (fun _ => ?_) (fun _ => ?_) | refine zwS (fun _ => ?_) (fun _ => ?_))
        refine aw_for (t0 := [(4, .pointer (some ⟨g, 0, none⟩)), (6, .slice (some ⟨gL, 0, none⟩) L.length capL), (7, I i), (8, .slice (some ⟨gP, 0, none⟩) P.length capP), (12, I (0 : Nat))]) (fun q tm H => ∃ k : Nat, q = L.length - k ∧ k ≤ L.length ∧ tm = [(4, .pointer (some ⟨g, 0, none⟩)), (6, .slice (some ⟨gL, 0, none⟩) L.length capL), (7, I i), (8, .slice (some ⟨gP, 0, none⟩) P.length capP), (12, I k)] ∧ H = (gP, .cells csP.toArray 9 (0, 0)) :: ((gL, .cells csL.toArray 9 (0, 0)) :: (l ++ []))) ⟨0, rfl, by omega, rfl, rfl⟩ (by repeat (first | exact sub_nil | refine sub_cons rfl ?_)) ?_
        rintro _ _ _ ⟨k, rfl, hk, rfl, rfl⟩
        by_cases hkl : k < L.length
        · obtain ⟨x, hx⟩ := getP hkl
          have cX : csL[0 + (k : Int).toNat * 1]? = some (S x) := hcL k _ (k : Int) 0 _ hx rfl rfl
          have hbe := fun w' (hl : Lies w' l) => tbelow_ok hL hF x w' hl
          have hbl := hF.bl2 x
          have e1 := rin_ok P (by omega) x
          have e2 := rin_ok (belowT tr x) (by omega) nm
          have hne : (decide (x ∈ P) != decide (nm ∈ belowT tr x)) = false := by
            rw [show decide (x ∈ P) = decide (nm ∈ belowT tr x) from decide_eq_decide.2 (hbi x).symm]
            exact bne_self_eq_false _
          generalize decide (x ∈ P) = dP at e1 hne
          generalize decide (nm ∈ belowT tr x) = dB at e2 hne
          generalize belowT tr x = B at hbe hbl e2
          repeat' (first | (apply ao_nilh; exact hsub_a) | apply ao_nil | apply aq_nil | apply ah_end | ((first | apply ao_val | apply aq_val | (apply ah_take; (exact rfl))); exact wants_a; exact ov_a; (exact rfl)) | ((first | apply ao_skip | apply aq_skip | (apply ah_skip; (exact rfl))); exact nots_a; (exact rfl)) | (refine ao_is ?_; first | (apply ao_new; exact wants_a; exact on_a; (exact rfl); intro _) | (apply ao_store; exact wants_a; exact ow_a; exact upd_a) | (apply ao_valw; exact wants_a; exact ox_a; (exact rfl); exact upd_a) | (apply ao_skip0; exact nots_a) | (apply ao_append; exact wants_a; (exact rfl); assumption; (exact rfl); exact cut_a; exact has_a; (exact rfl); (exact rfl); omega; omega; omega; (exact rfl); intro vr lr hr)) | ((first | apply ao_call | apply aq_call); exact wants_a; (first | exact oc_func rfl | exact oc_clos rfl rfl | exact oc_bnd rfl rfl); (exact rfl); (first | exact fun w hw => e1 _ w (hw.oldr r7 cut_a) | exact fun w hw => e2 _ w (hw.oldr (by assumption) cut_a))) | (apply ao_callr; exact wants_a; (exact oc_func rfl); (exact rfl); (first | exact fun w hw => hbe w (lies_of hw (l := l) cut_a)); intro vr lr hr) | (apply ah_one; (exact rfl)) | (apply ah_two; (exact rfl); (exact rfl)) | (apply ah_three; (exact rfl); (exact rfl); (exact rfl)) | (refine aw_is ?_; first | (apply aw_held (id := 31) (pl := (.t 0 (.t 1 (.t 2 (.t 3 (.t 4 (.t 6 (.t 7 (.t 8 (.t 9 (.o 5 (.o 10 (.t 11 .e))))))))))))); (kernel_rfl); (kernel_rfl); (kernel_rfl); (solve | (exact List.Sublist.refl _))) | refine aw_seq ?_ | refine aw_block ?_ | refine aw_region ?_ | refine aw_skip ?_ | refine aw_exit ?_ | refine aw_ret ?_ | refine aw_label ?_ | refine aw_scope ?_ | refine aw_cond_t rfl (by with_reducible rfl) ?_ | refine aw_cond_f rfl (by with_reducible rfl) ?_ | refine aw_draw (by kernel_rfl) (by kernel_rfl) ?_) | (first | (refine ah_is ?_; (fail_if_success first | refine ah_glit (b := true) rfl rfl rfl (by with_reducible rfl) ?_ | refine ah_glit (b := false) rfl rfl rfl (by with_reducible rfl) ?_); apply ah_gt; (exact rfl); (exact rfl); (exact rfl); exact t_a) | ((refine ao_is ?_; (fail_if_success first | refine ao_glit (b := true) rfl rfl (by with_reducible rfl) ?_ | refine ao_glit (b := false) rfl rfl (by with_reducible rfl) ?_)); apply ao_gt; (exact rfl); (exact rfl); exact t_a) | ((refine aq_is ?_; (fail_if_success first | refine aq_glit (b := true) rfl rfl (by with_reducible rfl) ?_ | refine aq_glit (b := false) rfl rfl (by with_reducible rfl) ?_)); apply aq_gt; (exact rfl); (exact rfl); exact t_a) | (apply aw_ct; (exact rfl); exact t_a)) | (first | (refine ah_is ?_; (fail_if_success first | refine ah_glit (b := true) rfl rfl rfl (by with_reducible rfl) ?_ | refine ah_glit (b := false) rfl rfl rfl (by with_reducible rfl) ?_); apply ah_gf; (exact rfl); (exact rfl); (exact rfl); exact f_a) | ((refine ao_is ?_; (fail_if_success first | refine ao_glit (b := true) rfl rfl (by with_reducible rfl) ?_ | refine ao_glit (b := false) rfl rfl (by with_reducible rfl) ?_)); apply ao_gf; (exact rfl); (exact rfl); exact f_a) | ((refine aq_is ?_; (fail_if_success first | refine aq_glit (b := true) rfl rfl (by with_reducible rfl) ?_ | refine aq_glit (b := false) rfl rfl (by with_reducible rfl) ?_)); apply aq_gf; (exact rfl); (exact rfl); exact f_a) | (apply aw_cf; (exact rfl); exact f_a)) | refine at_normal ?_ | refine at_exit ?_ | refine at_ret ?_ | refine ib_normal ?_ | refine ib_exit ?_ | refine ib_other ?_ | refine ib_ret ?_ | refine lq_exit ?_ | refine lq_ret ?_ | refine ci_ret ?_ | refine ci_exit ?_ | refine r1_ret rfl ?_ | refine r1_normal rfl ?_ | refine r2_ret rfl rfl ?_ | refine r2_normal rfl rfl ?_ | refine r3_ret rfl rfl rfl ?_ | refine r3_normal rfl rfl rfl ?_ | refine ng_normal ?_ | refine ng_exit ?_ | refine ng_ret ?_ | (apply rt_ret; (exact rfl); (exact rfl); (exact rfl); exact has_a; exact has_a; (exact rfl); (exact rfl)) | (apply rc1_ret; (exact rfl); exact has_a; (exact rfl)) | (apply rc2_ret; (exact rfl); exact has_a; (exact rfl); (exact rfl)) | (refine ao_is ?_; (fail_if_success first | refine ao_glit (b := true) rfl rfl (by with_reducible rfl) ?_ | refine ao_glit (b := false) rfl rfl (by with_reducible rfl) ?_); refine ao_gbool rfl rfl (fun _ => ?_) (fun _ => ?_)) | (refine aq_is ?_; (fail_if_success first | refine aq_glit (b := true) rfl rfl (by with_reducible rfl) ?_ | refine aq_glit (b := false) rfl rfl (by with_reducible rfl) ?_); refine aq_gbool rfl rfl (fun _ => ?_) (fun _ => ?_)) | (refine aw_is ?_; refine aw_cond rfl (fun _ => ?_) (fun _ => ?_)))
          exact lq_normal' ⟨k + 1, rfl, by omega, rfl, rfl⟩ (by omega) (by repeat (first | exact sub_nil | refine sub_cons rfl ?_)) hsub_a
        · obtain rfl : k = L.length := by omega
          repeat' (first | refine aw_seq ?_ | refine zz ?_ | refine zon fun _ => ?_ | refine zoa fun vr lr hr => ?_ | refine zoS (fun _ => ?_) (fun _ => ?_) | refine zqS (fun _ => ?_) (fun _ => ?_) | refine zwS (fun _ => ?_) (fun _ => ?_))
          exact lq_normal' ⟨i + 1, rfl, by omega, rfl, rfl⟩ (by omega) (by repeat (first | exact sub_nil | refine sub_cons rfl ?_)) hsub_a
    · repeat' (first | refine aw_seq ?_ | refine zz ?_ | refine zon fun _ => ?_ | refine zoa fun vr lr hr => ?_ | ((first | apply ao_call | apply aq_call); exact wants_a; (first | exact oc_func rfl | exact oc_clos rfl rfl | exact oc_bnd rfl rfl); (exact rfl); (first | exact fun w hw => alive_ok w | exact fun w hw => thas_ok hL hF rootN w (lies_of hw (l := l) cut_a))) | refine zoS (fun _ => ?_) (fun _ => ?_) | refine zqS (fun _ => ?_) (fun _ => ?_) | refine zwS (fun _ => ?_) (fun _ => ?_))
      exact fun w' hw => ⟨by rw [hrr], hw.below⟩
end Trt
end Go.Proofs.Ytoeidecnfkogdaa
