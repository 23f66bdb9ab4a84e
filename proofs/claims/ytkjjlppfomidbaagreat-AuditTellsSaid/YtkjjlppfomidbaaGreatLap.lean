/- AuditTells, walked: the table of any scopes, objects, and a tree is as the document says; conditions: none. -/
import Derived.Test.YtkjjlppfomidbaaGreatLai
import Derived.Test.YtkjjlppfomidbaaGreatLal
namespace Go.Proofs.YtkjjlppfomidbaaGreat
namespace Aut
open Go Go.RowKit Sx Vec Ojt Scp Lct
attribute [local irreducible] Go.Calls
structure Fit14 (ss : List Sc) (os : List Evt.PO) (ac : List Trt.Ac) : Prop where
  sl : ss.length ≤ 20
  ws : ∀ s ∈ ss, wfP s.2
  al : ac.length ≤ 60
  af : ∀ a ∈ ac, Trt.fitN a
  ol : os.length ≤ 40
  wo : ∀ p ∈ os, wfO p.2
theorem fit14_wf {ss : List Sc} {os : List Evt.PO} {ac : List Trt.Ac} (h : fit14 ss os ac = true) (hn : ∀ p ∈ os, numR p.2.rs) : Fit14 ss os ac := by
  unfold fit14 at h
  rw [Bool.and_eq_true, Bool.and_eq_true, Bool.and_eq_true, decide_eq_true_eq, List.all_eq_true] at h
  obtain ⟨h1, h2, h3, h4⟩ := h
  obtain ⟨q1, q2⟩ := fitSc_wf h1
  obtain ⟨q3, q4⟩ := Trt.fitA_wf h2
  exact ⟨q1, q2, q3, q4, h3, fun p hp => (fit_wf (h4 p hp) (hn p hp)).1⟩
instance : TyZs Tryz.prog 39 2 [(.string ⟨#[]⟩), (.string ⟨#[]⟩)] := ⟨9, (Tryz.prog.info? 9).get!, (.string ⟨#[]⟩), by kernel_rfl, by kernel_rfl, by kernel_rfl, by kernel_rfl, by kernel_rfl, by kernel_rfl⟩
def spA (t : Trt.Tr) (os : List Evt.PO) (i : Nat) : List Tx := t.map (·.1) ++ ([[122], []] ++ (os.take i).map fun p => p.2.s)
theorem spA_next {t : Trt.Tr} {os : List Evt.PO} {i : Nat} {p : Evt.PO} (h : os[i]? = some p) : spA t os (i + 1) = spA t os i ++ [p.2.s] := by
  unfold spA
  rw [List.take_add_one, h]
  simp
theorem spA_len (t : Trt.Tr) (os : List Evt.PO) (i : Nat) : (spA t os i).length ≤ t.length + 2 + os.length := by
  unfold spA
  rw [List.length_append, List.length_append, List.length_map, List.length_map]
  have := List.length_take_le' i os
  simp
  omega
set_option maxHeartbeats 128000000 in
set_option maxRecDepth 20000 in
theorem tells_ok (v0 v1 v2 : Value) (ss : List Sc) (os : List Evt.PO) (ac : List Trt.Ac) (hno : ∀ p ∈ os, numR p.2.rs) (hk : ∀ a ∈ ac, 0 ≤ a.kind) (w : World) (hv : ScsAt w v0 ss) (ho : Evt.ObjsAt w v1 os) (ha : OldRow w 3 v2 ac.length (ac.flatMap Trt.cellsA)) :
    Calls Tryz.prog 3 #[v0, v1, v2] w fun e w' => e = .returned (.bool true) ∧ Below w.heap.size w w' := by
  obtain ⟨a, cp, rfl, hat⟩ := OldRow.cells cellsSc_len hv.1
  obtain ⟨oa, oc, rfl, hoat⟩ := OldRow.cells Evt.cellsO_len ho.1
  have hfit := fun w' (hb : Below w.heap.size w w') => fits14_ok w' (hv.below hb) (ho.below hb) (OldRow.below ha hb)
  refine calls1 (args := [.slice a ss.length cp, .slice oa os.length oc, v2]) Tryz.func3 rfl rfl rfl rfl ?_
  cases hq : fit14 ss os ac
  · rw [hq] at hfit
    repeat' (first | refine aw_seq ?_ | refine zz ?_ | refine zon fun _ => ?_ | refine zoa fun vr lr hr => ?_ | ((first | apply ao_call | apply aq_call); exact wants_a; (first | exact oc_func rfl | exact oc_clos rfl rfl | exact oc_bnd rfl rfl); (exact rfl); (first | exact fun w hw => hfit w hw.below | exact fun w hw => alive_ok w)) | refine zoS (fun _ => ?_) (fun _ => ?_) | refine zqS (fun _ => ?_) (fun _ => ?_) | refine zwS (fun _ => ?_) (fun _ => ?_))
    exact fun w' hw => ⟨rfl, hw.below⟩
  rw [hq] at hfit
  obtain ⟨hsl, hws, hal, haf, hol, hwo⟩ := fit14_wf hq hno
  have hF : Trt.FitT (growT ac) := by have := grow_fit ac.length haf; rwa [List.take_length] at this
  have hgr := fun w' (hb : Below w.heap.size w w') => grown_ok w' (OldRow.below ha hb) hk (by omega) haf
  generalize growT ac = t at hF hgr
  have hld := fun w' (hb : Below w.heap.size w w') => rload_ok (hv.below hb) hws hsl (ho.below hb) (by omega) hwo
  have hrt := fun w' (hb : Below w.heap.size w w') => rrightS_ok (hv.below hb) (by omega) hws
  cases hr : rightScs (scT ss)
  · rw [hr] at hrt
    have hfu := fun {gt : Nat} {lt : Hp} w' (hb : Below w.heap.size w w') (hT : Trt.LTr t gt lt) (hl : Lies w' lt) => auf_f (hv.below hb) hws hsl (ho.below hb) (by omega) hwo hT hF hl (.inl hr)
    repeat' (first | refine aw_seq ?_ | ((first | apply ao_val | apply aq_val); exact wants_a; (first | exact ov_peq0 rfl rfl | exact ov_a); (exact rfl)) | refine zy ?_ | refine zon fun _ => ?_ | refine zoa fun vr lr hr => ?_ | ((first | apply ao_call | apply aq_call); exact wants_a; (first | exact oc_func rfl | exact oc_clos rfl rfl | exact oc_bnd rfl rfl); (exact rfl); (first | exact fun w hw => hfit w hw.below | exact fun w hw => alive_ok w | exact fun w hw => hrt w hw.below | exact fun w hw => hfu w hw.below hLt (lies_of hw (l := lt) (Cut.snd (l := lx) cut_a)))) | ((apply ao_callD; exact wants_a; (exact oc_func rfl); (exact rfl); (intro w hw; exact hgr w hw.below); rintro _ _ ⟨gt, gx, lt, lx, rfl, rfl, hLt, hRx⟩)) | ((apply ao_callD; exact wants_a; (exact oc_func rfl); (exact rfl); (intro w hw; exact hld w hw.below); intro v3 l3 h3)) | refine zoS (fun _ => ?_) (fun _ => ?_) | refine zqS (fun _ => ?_) (fun _ => ?_) | refine zwS (fun _ => ?_) (fun _ => ?_))
    all_goals exact fun w' hw => ⟨rfl, hw.below⟩
  rw [hr] at hrt
  have h8 : ss.length ≤ 8 := by
    unfold rightScs at hr
    rw [Bool.and_eq_true, decide_eq_true_eq, List.length_map] at hr
    exact hr.2
  cases hro : (Evt.obs os).all rightO
  · have hfu := fun {gt : Nat} {lt : Hp} w' (hb : Below w.heap.size w w') (hT : Trt.LTr t gt lt) (hl : Lies w' lt) => auf_f (hv.below hb) hws hsl (ho.below hb) (by omega) hwo hT hF hl (.inr hro)
    rw [load_no hro] at hld
    repeat' (first | refine aw_seq ?_ | ((first | apply ao_val | apply aq_val); exact wants_a; (first | exact ov_peq0 rfl rfl | exact ov_a); (exact rfl)) | refine zy ?_ | refine zon fun _ => ?_ | refine zoa fun vr lr hr => ?_ | ((first | apply ao_call | apply aq_call); exact wants_a; (first | exact oc_func rfl | exact oc_clos rfl rfl | exact oc_bnd rfl rfl); (exact rfl); (first | exact fun w hw => hfit w hw.below | exact fun w hw => alive_ok w | exact fun w hw => hrt w hw.below | exact fun w hw => hfu w hw.below hLt (lies_of hw (l := lt) (Cut.snd (l := lx) cut_a)))) | ((apply ao_callD; exact wants_a; (exact oc_func rfl); (exact rfl); (intro w hw; exact hgr w hw.below); rintro _ _ ⟨gt, gx, lt, lx, rfl, rfl, hLt, hRx⟩)) | ((apply ao_callD; exact wants_a; (exact oc_func rfl); (exact rfl); (intro w hw; exact hld w hw.below); intro v3 l3 h3)) | refine zoS (fun _ => ?_) (fun _ => ?_) | refine zqS (fun _ => ?_) (fun _ => ?_) | refine zwS (fun _ => ?_) (fun _ => ?_))
    all_goals exact fun w' hw => ⟨rfl, hw.below⟩
  have hwl : ∀ o ∈ Evt.obs os, wfO o := fun o ho => by
    obtain ⟨p, hp, rfl⟩ := List.mem_map.1 ho
    exact hwo p hp
  obtain ⟨L, hL, hA⟩ := load_A (scs := scT ss) (by rw [List.length_map]; exact h8) (os := Evt.obs os) (by rw [List.length_map]; omega) hwl hro
  have hB := (loadS_bnd (scs := scT ss) (by rw [List.length_map]; omega) hwl (by rw [List.length_map]; omega)).up (m := 40) (by rw [List.length_map]; exact hol)
  rw [hL] at hld hB
  simp only at hB
  generalize (fun b n => cnt (scT ss) b n (Evt.obs os)) = f at hA
  have hfu := fun {gt : Nat} {lt : Hp} w' (hb : Below w.heap.size w w') (hT : Trt.LTr t gt lt) (hl : Lies w' lt) => auf_t (hv.below hb) hws hsl (ho.below hb) (by omega) hwo hT hF hl hr hL hA
  repeat' (first | refine aw_seq ?_ | ((first | apply ao_val | apply aq_val); exact wants_a; (first | exact ov_peqs rfl rfl | exact ov_a); (exact rfl)) | refine zy ?_ | refine zon fun _ => ?_ | refine zoa fun vr lr hr => ?_ | ((first | apply ao_call | apply aq_call); exact wants_a; (first | exact oc_func rfl | exact oc_clos rfl rfl | exact oc_bnd rfl rfl); (exact rfl); (first | exact fun w hw => hfit w hw.below | exact fun w hw => hrt w hw.below)) | ((apply ao_callD; exact wants_a; (exact oc_func rfl); (exact rfl); (intro w hw; exact hgr w hw.below); rintro _ _ ⟨gt, gx, lt, lx, rfl, rfl, hLt, hRx⟩)) | ((apply ao_callD; exact wants_a; (exact oc_func rfl); (exact rfl); (intro w hw; exact hfu w hw.below hLt (lies_of hw (l := lt) (Cut.snd (l := lx) cut_a))); rintro _ lau ⟨g, rfl, hAu⟩)) | ((apply ao_callD; exact wants_a; (exact oc_func rfl); (exact rfl); (intro w hw; exact hld w hw.below); rintro v3 l3 ⟨ps, e3, hS3⟩)) | refine zoS (fun _ => ?_) (fun _ => ?_) | refine zqS (fun _ => ?_) (fun _ => ?_) | refine zwS (fun _ => ?_) (fun _ => ?_))
  clear hfit hgr hfu hld hrt
  have e3 : sums ps = L := e3
  subst e3
  obtain ⟨vN, lN, rfl, hN⟩ := hRx
  have htl := hF.len
  have hwt := hF.wf
  have hdp : ∀ e ∈ t, (Trt.pathT t e.1).length ≤ 8 := hwt.deep
  have hpl : ps.length ≤ 100000 := by have := hB.len; rw [List.length_map] at this; omega
  have hnl : (t.map (·.1)).length = t.length := List.length_map _
  have hra := fun w' (hT : Trt.TAt w' gx t vN) => Trt.rall_ok hT (by omega)
  have hS : ∀ w', Lies w' l3 → SumAt w' v3 ps := hS3
  refine ao_permH (show List.Perm _ (l3 ++ (lau ++ ((gx, .cells #[vN] 89 (0, 0)) :: (lN ++ (lt ++ []))))) from by
    simp only [List.cons_append, List.append_assoc]
    exact List.Perm.refl _) ?_
  repeat' (first | refine aw_seq ?_ | refine zz ?_ | refine zon fun _ => ?_ | refine zoa fun vr lr hr => ?_ | (apply ao_callr; exact wants_a; (exact oc_func rfl); (exact rfl); (first | exact fun w hw => hra w (Trt.tAt_of hw has_a hN cut_a)); intro vr lr hr) | refine zoS (fun _ => ?_) (fun _ => ?_) | refine zqS (fun _ => ?_) (fun _ => ?_) | refine zwS (fun _ => ?_) (fun _ => ?_))
  have hr0 : RowB 9 1 vr lr (spA t os 0).length ((spA t os 0).flatMap Trt.cells1) := by
    rw [show spA t os 0 = t.map (·.1) ++ [[122], []] by simp [spA], List.length_append, List.flatMap_append]
    exact hr
  refine aw_forH (t0 := [(0, .slice a ss.length cp), (1, .slice oa os.length oc), (9, .pointer (some ⟨gx, 0, none⟩)), (10, .pointer (some ⟨g, 0, none⟩)), (12, v3), (15, vr), (16, I (0 : Nat))]) (H0 := lr ++ (l3 ++ (lau ++ ((gx, .cells #[vN] 89 (0, 0)) :: (lN ++ (lt ++ [])))))) (fun q tm H => ∃ (i : Nat) (vs : Value) (ls : Hp), q = os.length - i ∧ i ≤ os.length ∧ RowB 9 1 vs ls (spA t os i).length ((spA t os i).flatMap Trt.cells1) ∧
      tm = [(0, .slice a ss.length cp), (1, .slice oa os.length oc), (9, .pointer (some ⟨gx, 0, none⟩)), (10, .pointer (some ⟨g, 0, none⟩)), (12, v3), (15, vs), (16, I i)] ∧ H = ls ++ (l3 ++ (lau ++ ((gx, .cells #[vN] 89 (0, 0)) :: (lN ++ (lt ++ []))))))
    ⟨0, vr, lr, rfl, Nat.zero_le _, hr0, rfl, rfl⟩ (by repeat (first | exact sub_nil | refine sub_cons rfl ?_)) hsub_a ?_
  clear hr0 hr
  rintro q tm H ⟨i, vs, ls, rfl, hi, hrs, rfl, rfl⟩
  have hsl2 := spA_len t os i
  by_cases hil : i < os.length
  · obtain ⟨⟨u, o⟩, he⟩ := Lct.getP hil
    obtain ⟨go, o1, rfl, hg, hc⟩ := hoat i _ (i : Int) he rfl
    have cS : w.cell? ⟨go, o1 + (i : Int).toNat * 8 + 0 + 1, none⟩ = some (S o.s) := hc 1 _ rfl
    have hnx := spA_next (t := t) he
    simp only at hnx
    obtain ⟨av, cv, hvs⟩ := hrs.len
    subst hvs
    repeat' (first | refine aw_seq ?_ | refine zz ?_ | refine zon fun _ => ?_ | refine zoa fun vr lr hr => ?_ | refine zoS (fun _ => ?_) (fun _ => ?_) | refine zqS (fun _ => ?_) (fun _ => ?_) | refine zwS (fun _ => ?_) (fun _ => ?_))
    exact lq_normal' ⟨i + 1, vr, lr, rfl, by omega, by rw [hnx]; exact Trt.row1 hr, rfl, rfl⟩ (by omega) (by repeat (first | exact sub_nil | refine sub_cons rfl ?_)) hsub_a
  obtain rfl : i = os.length := by omega
  clear hil hi
  generalize spA t os os.length = SP at hrs hsl2
  repeat' (first | refine aw_seq ?_ | refine zz ?_ | refine zon fun _ => ?_ | refine zoa fun vr lr hr => ?_ | refine zoS (fun _ => ?_) (fun _ => ?_) | refine zqS (fun _ => ?_) (fun _ => ?_) | refine zwS (fun _ => ?_) (fun _ => ?_))
  refine aw_for (t0 := [(0, .slice a ss.length cp), (9, .pointer (some ⟨gx, 0, none⟩)), (10, .pointer (some ⟨g, 0, none⟩)), (12, v3), (15, vs), (17, I (0 : Nat))]) (fun q tm H => ∃ (n : Nat), q = SP.length - n ∧ n ≤ SP.length ∧
      tm = [(0, .slice a ss.length cp), (9, .pointer (some ⟨gx, 0, none⟩)), (10, .pointer (some ⟨g, 0, none⟩)), (12, v3), (15, vs), (17, I n)] ∧ H = ls ++ (l3 ++ (lau ++ ((gx, .cells #[vN] 89 (0, 0)) :: (lN ++ (lt ++ []))))))
    ⟨0, rfl, Nat.zero_le _, rfl, rfl⟩ (by repeat (first | exact sub_nil | refine sub_cons rfl ?_)) ?_
  rintro q tm H ⟨n, rfl, hn, rfl, rfl⟩
  by_cases hnl : n < SP.length
  · obtain ⟨x, hx⟩ := Lct.getP hnl
    obtain ⟨gB, capB, csB, e1, e2, hcB⟩ := RowB.cells Trt.cells1_len hrs hx
    have cX : csB[0 + (n : Int).toNat * 1]? = some (S x) := hcB 0 _ rfl
    subst e1
    subst e2
    repeat' (first | refine aw_seq ?_ | refine zz ?_ | refine zon fun _ => ?_ | refine zoa fun vr lr hr => ?_ | refine zoS (fun _ => ?_) (fun _ => ?_) | refine zqS (fun _ => ?_) (fun _ => ?_) | refine zwS (fun _ => ?_) (fun _ => ?_))
    refine aw_for (t0 := [(0, .slice a ss.length cp), (9, .pointer (some ⟨gx, 0, none⟩)), (10, .pointer (some ⟨g, 0, none⟩)), (12, v3), (15, .slice (some ⟨gB, 0, none⟩) SP.length capB), (17, I n), (18, I (((0 : Nat) : Int) - 1))]) (fun q tm H => ∃ (j : Nat), q = ss.length + 2 - j ∧ j ≤ ss.length + 2 ∧
        tm = [(0, .slice a ss.length cp), (9, .pointer (some ⟨gx, 0, none⟩)), (10, .pointer (some ⟨g, 0, none⟩)), (12, v3), (15, .slice (some ⟨gB, 0, none⟩) SP.length capB), (17, I n), (18, I ((j : Int) - 1))] ∧ H = [(gB, .cells csB.toArray 9 (0, 0))] ++ (l3 ++ (lau ++ ((gx, .cells #[vN] 89 (0, 0)) :: (lN ++ (lt ++ []))))))
      ⟨0, rfl, Nat.zero_le _, rfl, rfl⟩ (by repeat (first | exact sub_nil | refine sub_cons rfl ?_)) ?_
    rintro q tm H ⟨j, rfl, hj, rfl, rfl⟩
    by_cases hjl : j < ss.length + 2
    · have hown := fun w' (hl : Lies w' lau) => auown_ok hAu hA x ((j : Int) - 1) w' hl
      have hall := fun w' (hl : Lies w' lau) => auall_ok hAu hA x ((j : Int) - 1) w' hl
      have hovr := fun w' (hl : Lies w' lau) => auover_ok hAu hA x ((j : Int) - 1) w' hl
      have hget := fun w' (h : SumAt w' v3 ps) => rgetS_ok h hpl (x, (j : Int) - 1)
      have hrall := fun w' (h : SumAt w' v3 ps) (hT : Trt.TAt w' gx t vN) => rallA_ok h hpl hA hT (by omega) hdp x ((j : Int) - 1)
      have hrov := fun w' (h : SumAt w' v3 ps) (hT : Trt.TAt w' gx t vN) => roverA_ok h hpl hA hT (by omega) hdp x ((j : Int) - 1)
      obtain ⟨wg, -⟩ := hA.wf (hA.single x ((j : Int) - 1)) (by simp)
      obtain ⟨wa, -⟩ := hA.wf (hA.all t (by omega) x ((j : Int) - 1)) (by unfold Trt.belowT; rw [List.length_map]; exact Nat.le_trans (List.length_filter_le _ _) (by omega))
      have hsg := fun u1 u2 w' h1 h2 => show Calls Tryz.prog 12 #[u1, u2] w' fun e w'' => e = .returned (.bool true) ∧ Below w'.heap.size w' w'' by
        have := Vec.vsame_ok u1 u2 (getS (sums ps) (x, (j : Int) - 1)) (getS (sums ps) (x, (j : Int) - 1)) wg wg w' h1 h2
        rwa [beq_self_eq_true] at this
      have hsa := fun u1 u2 w' h1 h2 => show Calls Tryz.prog 12 #[u1, u2] w' fun e w'' => e = .returned (.bool true) ∧ Below w'.heap.size w' w'' by
        have := Vec.vsame_ok u1 u2 (allA (sums ps) t x ((j : Int) - 1)) (allA (sums ps) t x ((j : Int) - 1)) wa wa w' h1 h2
        rwa [beq_self_eq_true] at this
      generalize allA (sums ps) t x ((j : Int) - 1) = As at hall hovr hrall hrov hsa
      have hbn : (!((!(vfitsB As)) == (!(vfitsB As)))) = false := by rw [beq_self_eq_true]; rfl
      repeat' (first | refine zhn ?_ | refine ah_end ?_ | refine zhv ?_ | (apply ah_one; (exact rfl)) | (apply ah_two; (exact rfl); (exact rfl)) | (apply ah_three; (exact rfl); (exact rfl); (exact rfl)) | (apply aw_held (id := 23) (pl := (.t 0 (.t 1 (.t 2 (.t 3 (.t 4 (.t 5 (.t 7 (.t 8 (.t 9 (.t 10 (.t 11 (.t 12 (.t 13 (.o 6 (.o 14 (.o 15 (.t 16 .e)))))))))))))))))); (kernel_rfl); (kernel_rfl); (kernel_rfl); (solve | (exact List.Sublist.refl _))) | (apply aw_held (id := 24) (pl := (.t 0 (.t 1 (.t 2 (.t 3 (.t 4 (.t 5 (.t 7 (.t 8 (.t 9 (.t 10 (.t 11 (.t 12 (.t 13 (.o 6 (.o 14 (.o 15 (.t 16 .e)))))))))))))))))); (kernel_rfl); (kernel_rfl); (kernel_rfl); (solve | (exact List.Sublist.refl _))) | (apply aw_held (id := 25) (pl := (.t 0 (.t 1 (.t 2 (.t 3 (.t 4 (.t 5 (.t 6 (.t 7 (.t 8 (.t 9 (.t 10 (.t 11 (.t 12 (.t 14 (.t 15 (.t 16 (.t 17 (.t 18 (.t 19 (.t 20 (.o 13 (.o 21 (.t 22 (.t 23 .e))))))))))))))))))))))))); (kernel_rfl); (kernel_rfl); (kernel_rfl); (solve | (exact List.Sublist.refl _))) | refine aw_seq ?_ | refine zv ?_ | (refine aw_is ?_; refine zwd ?_) | refine zhk ?_ | refine zhT ?_ | refine zhF ?_ | refine zon fun _ => ?_ | refine zoa fun vr lr hr => ?_ | ((first | apply ao_call | apply aq_call); exact wants_a; (first | exact oc_func rfl | exact oc_clos rfl rfl | exact oc_bnd rfl rfl); (exact rfl); (first | exact fun w hw => hget w (hS w (lies_of hw (l := l3) cut_a)) | exact fun w hw => hsg _ _ w (hw.oldr (by assumption) cut_a) ((hS w (lies_of hw (l := l3) cut_a)).get _) | exact fun w hw => hsa _ _ w (hw.oldr (by assumption) cut_a) (hw.oldr (by assumption) cut_a) | exact fun w hw => hovr w (lies_of hw (l := lau) cut_a) | exact fun w hw => hrov w (hS w (lies_of hw (l := l3) cut_a)) (Trt.tAt_of hw has_a hN cut_a))) | (apply ao_callr; exact wants_a; (exact oc_func rfl); (exact rfl); (first | exact fun w hw => hown w (lies_of hw (l := lau) cut_a) | exact fun w hw => hall w (lies_of hw (l := lau) cut_a) | exact fun w hw => hrall w (hS w (lies_of hw (l := l3) cut_a)) (Trt.tAt_of hw has_a hN cut_a)); intro vr lr hr) | refine zoS (fun _ => ?_) (fun _ => ?_) | refine zqS (fun _ => ?_) (fun _ => ?_) | refine zwS (fun _ => ?_) (fun _ => ?_))
      exact lq_normal' (H' := [(gB, .cells csB.toArray 9 (0, 0))] ++ (l3 ++ (lau ++ ((gx, .cells #[vN] 89 (0, 0)) :: (lN ++ (lt ++ [])))))) ⟨j + 1, rfl, by omega, by rw [show ((j + 1 : Nat) : Int) - 1 = (j : Int) - 1 + 1 by omega], rfl⟩ (by omega) (by repeat (first | exact sub_nil | refine sub_cons rfl ?_)) hsub_a
    · repeat' (first | refine aw_seq ?_ | refine zz ?_ | refine zon fun _ => ?_ | refine zoa fun vr lr hr => ?_ | refine zoS (fun _ => ?_) (fun _ => ?_) | refine zqS (fun _ => ?_) (fun _ => ?_) | refine zwS (fun _ => ?_) (fun _ => ?_))
      exact lq_normal' ⟨n + 1, rfl, by omega, rfl, rfl⟩ (by omega) (by repeat (first | exact sub_nil | refine sub_cons rfl ?_)) hsub_a
  · obtain rfl : n = SP.length := by omega
    repeat' (first | refine aw_seq ?_ | ((first | apply ao_val | apply aq_val); exact wants_a; (first | exact ov_lenr rfl hrs | exact ov_lenr rfl (by assumption) | exact ov_a); (exact rfl)) | refine zy ?_ | refine zon fun _ => ?_ | refine zoa fun vr lr hr => ?_ | ((first | apply ao_call | apply aq_call); exact wants_a; (first | exact oc_func rfl | exact oc_clos rfl rfl | exact oc_bnd rfl rfl); (exact rfl); (first | exact fun w hw => alive_ok w | exact fun w hw => auover0_ok _ _ w)) | (apply ao_callr; exact wants_a; (exact oc_func rfl); (exact rfl); (first | exact fun w hw => auown0_ok _ _ w | exact fun w hw => auall0_ok _ _ w); intro vr lr hr) | refine zoS (fun _ => ?_) (fun _ => ?_) | refine zqS (fun _ => ?_) (fun _ => ?_) | refine zwS (fun _ => ?_) (fun _ => ?_))
    exact fun w' hw => ⟨rfl, hw.below⟩
end Aut
end Go.Proofs.YtkjjlppfomidbaaGreat
