/- The walk of MarksPlay of layer 12; conditions: none. -/
import Derived.Test.YtonhfddklkbnbaaMkd
import Derived.Test.YtonhfddklkbnbaaTru
namespace Go.Proofs.Ytonhfddklkbnbaa
namespace Mkt
open Go Go.RowKit Sx Trt
attribute [local irreducible] Go.Calls

set_option maxHeartbeats 64000000 in
theorem plays_ok (v u : Value) (xs : List Am) (hx0 : ∀ a ∈ xs, 0 ≤ a.kind) (ys : List Ac) (hn : ∀ a ∈ ys, 0 ≤ a.kind) (w : World) (hv : ActsAt w v xs) (hu : OldRow w 3 u ys.length (ys.flatMap cellsA)) : Calls Try.prog 3 #[v, u] w fun e w' => e = .returned (.bool true) ∧ Below w.heap.size w w' := by
  have hfit := fun w' (hb : Below w.heap.size w w') => fits12_ok v xs w' (hv.below hb)
  have hfit2 := fun w' (hb : Below w.heap.size w w') => fits11_ok u ys w' (OldRow.below hu hb)
  have hold := hv.2
  obtain ⟨a, cp, rfl, hat⟩ := OldRow.cells cellsM_len hv.1
  obtain ⟨b, cq, rfl, hbt⟩ := OldRow.cells cellsA_len hu
  refine calls1 (args := [.slice a xs.length cp, .slice b ys.length cq]) Try.func3 rfl rfl rfl rfl ?_
  cases hq : fitsM xs
  · rw [hq] at hfit
    repeat' (first | refine aw_seq ?_ | refine zz ?_ | refine zon fun _ => ?_ | refine zoa fun vr lr hr => ?_ | ((first | apply ao_call | apply aq_call); exact wants_a; (first | exact oc_func rfl | exact oc_clos rfl rfl | exact oc_bnd rfl rfl); (exact rfl); (first | exact fun w hw => hfit w hw.below | exact fun w hw => hfit2 w hw.below | exact fun w hw => alive_ok w)) | refine zoS (fun _ => ?_) (fun _ => ?_) | refine zqS (fun _ => ?_) (fun _ => ?_) | refine zwS (fun _ => ?_) (fun _ => ?_))
    exact fun w' hw => ⟨rfl, hw.below⟩
  rw [hq] at hfit
  cases hq2 : fitA ys
  · rw [hq2] at hfit2
    repeat' (first | refine aw_seq ?_ | refine zz ?_ | refine zon fun _ => ?_ | refine zoa fun vr lr hr => ?_ | ((first | apply ao_call | apply aq_call); exact wants_a; (first | exact oc_func rfl | exact oc_clos rfl rfl | exact oc_bnd rfl rfl); (exact rfl); (first | exact fun w hw => hfit w hw.below | exact fun w hw => hfit2 w hw.below | exact fun w hw => alive_ok w)) | refine zoS (fun _ => ?_) (fun _ => ?_) | refine zqS (fun _ => ?_) (fun _ => ?_) | refine zwS (fun _ => ?_) (fun _ => ?_))
    exact fun w' hw => ⟨rfl, hw.below⟩
  rw [hq2] at hfit2
  obtain ⟨h60, hks⟩ := fitsM_wf hq
  obtain ⟨h60b, hks2⟩ := fitA_wf hq2
  repeat' (first | refine aw_seq ?_ | refine zz ?_ | refine zon fun _ => ?_ | refine zoa fun vr lr hr => ?_ | ((first | apply ao_call | apply aq_call); exact wants_a; (first | exact oc_func rfl | exact oc_clos rfl rfl | exact oc_bnd rfl rfl); (exact rfl); (first | exact fun w hw => hfit w hw.below | exact fun w hw => hfit2 w hw.below)) | ((apply ao_callD; exact wants_a; (exact oc_func rfl); (exact rfl); (intro w hw; exact tnew_ok w); intro vr lr hr; obtain ⟨gt, hvr, hL⟩ := hr; subst hvr)) | ((apply ao_callD; exact wants_a; (exact oc_func rfl); (exact rfl); (intro w hw; exact rbegin_ok w); intro vr lm hr; obtain ⟨gx, hvr, hR⟩ := hr; subst hvr)) | refine zoS (fun _ => ?_) (fun _ => ?_) | refine zqS (fun _ => ?_) (fun _ => ?_) | refine zwS (fun _ => ?_) (fun _ => ?_))
  clear hfit hfit2
  refine aw_for (t0 := [(0, .slice a xs.length cp), (1, .slice b ys.length cq), (7, .pointer (some ⟨gt, 0, none⟩)), (8, .pointer (some ⟨gx, 0, none⟩)), (9, I (0 : Nat))]) (fun q t H => ∃ (i : Nat) (tr : Tr) (l lm : Hp), q = ys.length - i ∧ i ≤ ys.length ∧ LTr tr gt l ∧ FitT tr ∧ RTr gx tr lm ∧
      t = [(0, .slice a xs.length cp), (1, .slice b ys.length cq), (7, .pointer (some ⟨gt, 0, none⟩)), (8, .pointer (some ⟨gx, 0, none⟩)), (9, I i)] ∧ H = lm ++ (l ++ []))
    ⟨0, Tr.new, lr, lm, rfl, by omega, hL, FitT.new, hR, rfl, rfl⟩ (by repeat (first | exact sub_nil | refine sub_cons rfl ?_)) ?_
  clear hL hR
  rintro q t H ⟨i, tr, l, lm, rfl, hi, hL, hF, hR, rfl, rfl⟩
  by_cases hlt : i < ys.length
  · obtain ⟨⟨kind, n, o⟩, he⟩ := getP hlt
    have m1 := List.mem_of_getElem? he
    have hk0 := hn _ m1
    have hkk := hks2 _ m1
    obtain ⟨ga, o1, rfl, hg, hc⟩ := hbt i _ (i : Int) he rfl
    have cA : ∀ (j : Nat) z, [.int .u8 kind, S n, S o][j]? = some z → w.cell? ⟨ga, o1 + (i : Int).toNat * 3 + j, none⟩ = some z := hc
    have hdo := fun m R => ldo_ok (m := m) (w0 := w) hL hF ⟨kind, n, o⟩ hk0 hkk R
    have hwa := fun m R => rwant_ok (m := m) (w0 := w) hR hF ⟨kind, n, o⟩ hk0 hkk R
    have hF2 := fit_doT hF kind hkk.1 o
    unfold LDid at hdo
    unfold RDid at hwa
    simp only at hdo hwa hF2
    generalize doT (Lab.rightB n) tr kind n o = X at hdo hwa hF2
    obtain ⟨er, t2⟩ := X
    simp only at hdo hwa hF2
    repeat' (first | refine aw_seq ?_ | ((first | apply ao_val | apply aq_val); exact wants_a; (first | exact ov_load_oa rfl hg cA rfl | exact ov_a); (exact rfl)) | refine zy ?_ | refine zon fun _ => ?_ | refine zoa fun vr lr hr => ?_ | ((apply ao_callH (l := l); exact wants_a; (exact oc_func rfl); (exact rfl); (exact Cut.skipA lm Cut.here); (exact hdo _ _); rintro _ _ ⟨rfl, l2, rfl, hL2⟩)) | ((apply ao_callH (l := lm); exact wants_a; (exact oc_func rfl); (exact rfl); (exact Cut.skipA l2 Cut.here); (exact hwa _ _); rintro _ _ ⟨rfl, lm2, rfl, hR2⟩)) | refine zoS (fun _ => ?_) (fun _ => ?_) | refine zqS (fun _ => ?_) (fun _ => ?_) | refine zwS (fun _ => ?_) (fun _ => ?_))
    exact lq_normal' ⟨i + 1, t2, l2, lm2, rfl, by omega, hL2, hF2, hR2, rfl, rfl⟩ (by omega) (by repeat (first | exact sub_nil | refine sub_cons rfl ?_)) hsub_a
  obtain rfl : i = ys.length := by omega
  clear hlt hi hbt hks2 hq2 hu hn
  obtain ⟨vN, lN, rfl, hN⟩ := hR
  rw [List.cons_append]
  repeat' (first | refine aw_seq ?_ | refine zz ?_ | refine zon fun _ => ?_ | refine zoa fun vr lr hr => ?_ | ((apply ao_callD; exact wants_a; (exact oc_func rfl); (exact rfl); (intro w hw; exact mnew_ok w); intro vr h0 hr; obtain ⟨gm, hvr, hM⟩ := hr; subst hvr)) | refine zoS (fun _ => ?_) (fun _ => ?_) | refine zqS (fun _ => ?_) (fun _ => ?_) | refine zwS (fun _ => ?_) (fun _ => ?_))
  refine aw_for (t0 := [(0, .slice a xs.length cp), (7, .pointer (some ⟨gt, 0, none⟩)), (8, .pointer (some ⟨gx, 0, none⟩)), (10, .pointer (some ⟨gm, 0, none⟩)), (11, .slice none 0 0), (12, I (0 : Nat))]) (fun q t H => ∃ (i : Nat) (mk : Mk) (vw : Value) (lw hm : Hp), q = xs.length - i ∧ i ≤ xs.length ∧ LMk mk gm hm ∧ FitM mk ∧ mk.length ≤ 60 * i ∧ RowN vw lw mk ∧
      t = [(0, .slice a xs.length cp), (7, .pointer (some ⟨gt, 0, none⟩)), (8, .pointer (some ⟨gx, 0, none⟩)), (10, .pointer (some ⟨gm, 0, none⟩)), (11, vw), (12, I i)] ∧ H.Perm (lw ++ (hm ++ ((gx, .cells #[vN] 65 (0, 0)) :: (lN ++ (l ++ []))))))
    ⟨0, [], _, [], h0, rfl, by omega, hM, FitM.new, Nat.le_refl _, RowB.nil, rfl, List.Perm.refl _⟩ (by repeat (first | exact sub_nil | refine sub_cons rfl ?_)) ?_
  clear hM
  have p8 := hF.p8
  rintro q t H ⟨i, mk, vw, lw, hm, rfl, hi, hM, hFM, hml, hrw, rfl, hp⟩
  refine aw_permH hp ?_
  clear hp
  by_cases hlt : i < xs.length
  · obtain ⟨⟨kind, vk, ks, s0⟩, he⟩ := getP hlt
    have m1 := List.mem_of_getElem? he
    have hk0 := hx0 _ m1
    have hkk := hks _ m1
    have hvo := hold _ m1
    simp only at hk0 hvo
    obtain ⟨q1, q2, q3⟩ := hkk
    simp only at q1 q2 q3
    obtain ⟨ga, o1, rfl, hg, hc⟩ := hat i _ (i : Int) he rfl
    have cK : w.cell? ⟨ga, o1 + (i : Int).toNat * 3, none⟩ = some (.int .u8 kind) := hc 0 _ rfl
    have cV : w.cell? ⟨ga, o1 + (i : Int).toNat * 3 + 1, none⟩ = some vk := hc 1 _ rfl
    have cS : w.cell? ⟨ga, o1 + (i : Int).toNat * 3 + 2, none⟩ = some (S s0) := hc 2 _ rfl
    have hnl := fun w' (hl : Lies w' hm) (hlt : Lies w' l) => mnext_ok hM hFM hL hF w' hl hlt
    repeat' (first | refine aw_cutI_at (id := 20) (fun t H => ∃ s : Nm, t = [(0, .slice (some ⟨ga, o1, none⟩) xs.length cp), (7, .pointer (some ⟨gt, 0, none⟩)), (8, .pointer (some ⟨gx, 0, none⟩)), (10, .pointer (some ⟨gm, 0, none⟩)), (11, vw), (12, I i), (13, S s)] ∧ H = lw ++ (hm ++ ((gx, .cells #[vN] 65 (0, 0)) :: (lN ++ (l ++ []))))) ?_ ?_ | refine aw_cutI_at2 (id := 20) (fun t H => ∃ s : Nm, t = [(0, .slice (some ⟨ga, o1, none⟩) xs.length cp), (7, .pointer (some ⟨gt, 0, none⟩)), (8, .pointer (some ⟨gx, 0, none⟩)), (10, .pointer (some ⟨gm, 0, none⟩)), (11, vw), (12, I i), (13, S s)] ∧ H = lw ++ (hm ++ ((gx, .cells #[vN] 65 (0, 0)) :: (lN ++ (l ++ []))))) ?_ ?_ | refine aw_seq ?_ | refine zz ?_ | refine zon fun _ => ?_ | refine zoa fun vr lr hr => ?_)
    · by_cases h3 : kind % 4 = 3
      · have b3 : (kind % 4 == 3) = true := beq_iff_eq.2 h3
        repeat' (first | refine aw_seq ?_ | refine zz ?_ | refine zon fun _ => ?_ | refine zoa fun vr lr hr => ?_ | ((first | apply ao_call | apply aq_call); exact wants_a; (first | exact oc_func rfl | exact oc_clos rfl rfl | exact oc_bnd rfl rfl); (exact rfl); (first | exact fun w hw => hnl w (lies_of hw (l := hm) cut_a) (lies_of hw (l := l) cut_a))) | refine zoS (fun _ => ?_) (fun _ => ?_) | refine zqS (fun _ => ?_) (fun _ => ?_) | refine zwS (fun _ => ?_) (fun _ => ?_))
        exact ci_normal ⟨_, rfl, rfl⟩ (by repeat (first | exact sub_nil | refine sub_cons rfl ?_)) hsub_a
      · have b3 : (kind % 4 == 3) = false := beq_eq_false_iff_ne.2 h3
        repeat' (first | refine aw_seq ?_ | refine zz ?_ | refine zon fun _ => ?_ | refine zoa fun vr lr hr => ?_ | refine zoS (fun _ => ?_) (fun _ => ?_) | refine zqS (fun _ => ?_) (fun _ => ?_) | refine zwS (fun _ => ?_) (fun _ => ?_))
        exact ci_normal ⟨_, rfl, rfl⟩ (by repeat (first | exact sub_nil | refine sub_cons rfl ?_)) hsub_a
    rintro t H ⟨s, rfl, rfl⟩
    clear hnl
    have hmk := fun m R => mmark_ok (m := m) (w0 := w) hM hFM (v := vk) (ks := ks) (by omega) q3 R fun n w' hw => OldRow.below hvo hw.below
    have hrm := fun m R => rmarks_ok (m := m) (w0 := w) hrw (by omega) hFM.nm ks (by omega) q3 hvo R
    have hcl := fun m R => mclear_ok (m := m) (w0 := w) hM hFM s R
    have hrc := fun m R => rclear_ok (m := m) (w0 := w) hrw (by omega) s R
    repeat' (first | refine aw_cutI_at (id := 29) (fun t H => ∃ (er : Int) (m2 : Mk) (v2 : Value) (lw2 hm2 : Hp), LMk m2 gm hm2 ∧ FitM m2 ∧ m2.length ≤ 60 * (i + 1) ∧ RowN v2 lw2 m2 ∧ t = [(0, .slice (some ⟨ga, o1, none⟩) xs.length cp), (7, .pointer (some ⟨gt, 0, none⟩)), (8, .pointer (some ⟨gx, 0, none⟩)), (10, .pointer (some ⟨gm, 0, none⟩)), (11, v2), (12, I i), (13, S s), (14, I er), (15, I er)] ∧ H.Perm (lw2 ++ (hm2 ++ ((gx, .cells #[vN] 65 (0, 0)) :: (lN ++ (l ++ [])))))) ?_ ?_ | refine aw_cutI_at2 (id := 29) (fun t H => ∃ (er : Int) (m2 : Mk) (v2 : Value) (lw2 hm2 : Hp), LMk m2 gm hm2 ∧ FitM m2 ∧ m2.length ≤ 60 * (i + 1) ∧ RowN v2 lw2 m2 ∧ t = [(0, .slice (some ⟨ga, o1, none⟩) xs.length cp), (7, .pointer (some ⟨gt, 0, none⟩)), (8, .pointer (some ⟨gx, 0, none⟩)), (10, .pointer (some ⟨gm, 0, none⟩)), (11, v2), (12, I i), (13, S s), (14, I er), (15, I er)] ∧ H.Perm (lw2 ++ (hm2 ++ ((gx, .cells #[vN] 65 (0, 0)) :: (lN ++ (l ++ [])))))) ?_ ?_ | refine aw_seq ?_ | refine zz ?_ | refine zon fun _ => ?_ | refine zoa fun vr lr hr => ?_)
    · by_cases h2 : kind % 4 < 2
      · repeat' (first | refine aw_seq ?_ | refine zz ?_ | refine zon fun _ => ?_ | refine zoa fun vr lr hr => ?_ | ((apply ao_callH (l := hm); exact wants_a; (exact oc_func rfl); (exact rfl); (exact cut_a); (exact hmk _ _); rintro _ _ ⟨rfl, hm2, rfl, hM2⟩)) | ((apply ao_callH (l := lw); exact wants_a; (exact oc_func rfl); (exact rfl); (exact cut_a); (exact hrm _ _); rintro v2 _ ⟨lw2, rfl, hrw2⟩)) | refine zoS (fun _ => ?_) (fun _ => ?_) | refine zqS (fun _ => ?_) (fun _ => ?_) | refine zwS (fun _ => ?_) (fun _ => ?_))
        exact ci_normal (H1 := lw2 ++ (hm2 ++ ((gx, .cells #[vN] 65 (0, 0)) :: (lN ++ (l ++ []))))) ⟨0, marksL mk ks, v2, lw2, hm2, hM2, hFM.marks (by omega) q3, by have := marks_len ks mk; omega, hrw2, rfl, List.Perm.refl _⟩ (by repeat (first | exact sub_nil | refine sub_cons rfl ?_)) hsub_a
      · repeat' (first | refine aw_seq ?_ | refine zz ?_ | refine zon fun _ => ?_ | refine zoa fun vr lr hr => ?_ | ((apply ao_callH (l := hm); exact wants_a; (exact oc_func rfl); (exact rfl); (exact cut_a); (exact hcl _ _); rintro _ _ ⟨rfl, hm2, rfl, hM2⟩)) | ((apply ao_callH (l := lw); exact wants_a; (exact oc_func rfl); (exact rfl); (exact cut_a); (exact hrc _ _); rintro _ _ ⟨v2, lw2, rfl, rfl, hrw2⟩)) | refine zoS (fun _ => ?_) (fun _ => ?_) | refine zqS (fun _ => ?_) (fun _ => ?_) | refine zwS (fun _ => ?_) (fun _ => ?_))
        exact ci_normal (H1 := hm2 ++ (lw2 ++ ((gx, .cells #[vN] 65 (0, 0)) :: (lN ++ (l ++ []))))) ⟨_, (clearL mk s).1, v2, lw2, hm2, hM2, hFM.clear s, by have := clear_len mk s; omega, hrw2, rfl, by classical exact List.perm_iff_count.2 fun z => by simp only [List.count_append]; omega⟩ (by repeat (first | exact sub_nil | refine sub_cons rfl ?_)) hsub_a
    rintro t H ⟨er, m2, v2, lw2, hm2, hM2, hF2, hml2, hrw2, rfl, hp⟩
    refine aw_permH hp ?_
    clear hp hmk hrm hcl hrc hM hrw hFM
    have hal := fun w' (hl : Lies w' hm2) => mall_ok hM2 hF2 w' hl
    have hnl := fun w' (hl : Lies w' hm2) (hlt : Lies w' l) => mnext_ok hM2 hF2 hL hF w' hl hlt
    have hha := fun w' (hl : Lies w' hm2) => mhas_ok hM2 hF2 s w' hl
    have hin := rin_ok m2 (by omega) s
    have hsa := same_ok m2 (by omega)
    have hrn := fun w' v hv (h : TAt w' gx tr vN) => rnext_ok (l := m2) (v := v) hv (by omega) h hF.len2 p8
    have b1 : (!((nextL tr m2).1 == (nextL tr m2).1)) = false := by rw [beq_self_eq_true]; rfl
    have b2 : (!((nextL tr m2).2 == (nextL tr m2).2)) = false := by rw [beq_self_eq_true]; rfl
    have b3 : (!((decide (s ∈ m2)) == (decide (s ∈ m2)))) = false := by rw [beq_self_eq_true]; rfl
    repeat' (first | refine aw_seq ?_ | refine zz ?_ | refine zon fun _ => ?_ | refine zoa fun vr lr hr => ?_ | ((first | apply ao_call | apply aq_call); exact wants_a; (first | exact oc_func rfl | exact oc_clos rfl rfl | exact oc_bnd rfl rfl); (exact rfl); (first | exact fun w hw => hsa _ _ w (hw.oldr (by assumption) cut_a) (hw.oldr hrw2 cut_a) | exact fun w hw => hnl w (lies_of hw (l := hm2) cut_a) (lies_of hw (l := l) cut_a) | exact fun w hw => hha w (lies_of hw (l := hm2) cut_a) | exact fun w hw => hin _ w (hw.oldr hrw2 cut_a) | exact fun w hw => hrn w _ (hw.oldr hrw2 cut_a) (tAt_of hw has_a hN cut_a))) | (apply ao_callr; exact wants_a; (exact oc_func rfl); (exact rfl); (first | exact fun w hw => hal w (lies_of hw (l := hm2) cut_a)); intro vr lr hr) | refine zoS (fun _ => ?_) (fun _ => ?_) | refine zqS (fun _ => ?_) (fun _ => ?_) | refine zwS (fun _ => ?_) (fun _ => ?_))
    exact lq_normal' (H' := lw2 ++ (hm2 ++ ((gx, .cells #[vN] 65 (0, 0)) :: (lN ++ (l ++ []))))) ⟨i + 1, m2, v2, lw2, hm2, rfl, by omega, hM2, hF2, hml2, hrw2, rfl, List.Perm.refl _⟩ (by omega) (by repeat (first | exact sub_nil | refine sub_cons rfl ?_)) hsub_a
  · obtain rfl : i = xs.length := by omega
    repeat' (first | refine aw_seq ?_ | ((first | apply ao_val | apply aq_val); exact wants_a; (first | exact ov_lenr rfl (by assumption) | exact ov_a); (exact rfl)) | refine zy ?_ | refine zon fun _ => ?_ | refine zoa fun vr lr hr => ?_ | ((first | apply ao_call | apply aq_call); exact wants_a; (first | exact oc_func rfl | exact oc_clos rfl rfl | exact oc_bnd rfl rfl); (exact rfl); (first | exact fun w hw => alive_ok w | exact fun w hw => mnext0_ok hL hF w (lies_of hw (l := l) cut_a) | exact fun w hw => mmark0_ok w | exact fun w hw => mclear0_ok _ w | exact fun w hw => mhas0_ok _ w)) | (apply ao_callr; exact wants_a; (exact oc_func rfl); (exact rfl); (first | exact fun w hw => mall0_ok w); intro vr lr hr) | refine zoS (fun _ => ?_) (fun _ => ?_) | refine zqS (fun _ => ?_) (fun _ => ?_) | refine zwS (fun _ => ?_) (fun _ => ?_))
    exact fun w' hw => ⟨rfl, hw.below⟩
end Mkt
end Go.Proofs.Ytonhfddklkbnbaa
