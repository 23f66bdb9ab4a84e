/- The walk of MarksDeepest of layer 12; conditions: none. -/
import Derived.Test.YtonhfddklkbnbaaMkd
import Derived.Test.YtonhfddklkbnbaaTru
namespace Go.Proofs.Ytonhfddklkbnbaa
namespace Mkt
open Go Go.RowKit Sx Trt
attribute [local irreducible] Go.Calls

theorem path_nm {t : Tr} (h : FitT t) {s x : Nm} (hx : x ∈ pathT t s) : x.length ≤ 100 := by
  by_cases hs : hasT t s = true
  · obtain ⟨e, he, rfl⟩ := has_iff.1 hs
    obtain ⟨h1, -, -⟩ := h.wf.mem_path _ e he (Nat.le_refl _) x hx
    obtain ⟨y, hy, rfl⟩ := has_iff.1 h1
    exact h.nm y hy
  · rw [path_none (by simpa using hs)] at hx
    cases hx
theorem next_facts {t : Tr} (h : FitT t) {l : Mk} (hc : ClosedM t l) (hl : 0 < l.length) : (nextL t l).2 = true ∧ (nextL t l).1 ∈ l ∧ ∀ s ∈ l, (pathT t s).length ≤ (pathT t (nextL t l).1).length := by
  rcases next_spec t l 8 fun s _ => h.p8 s with ⟨h1, h2, -, h4⟩ | ⟨-, h2⟩
  · exact ⟨h1, h2, h4⟩
  · obtain ⟨s, hs⟩ := List.exists_mem_of_length_pos hl
    have h3 := h2 s hs
    have h4 := path_self h.wf (hc s hs).1
    rw [List.eq_nil_of_length_eq_zero h3] at h4
    cases h4
set_option maxHeartbeats 64000000 in
set_option maxRecDepth 20000 in
theorem deepest_ok (u v : Value) (ys : List Ac) (hn : ∀ a ∈ ys, 0 ≤ a.kind) (xs : List Nm) (w : World) (hu : OldRow w 3 u ys.length (ys.flatMap cellsA)) (hv : OldRow w 1 v xs.length (xs.flatMap cells1)) : Calls Try.prog 4 #[u, v] w fun e w' => e = .returned (.bool true) ∧ Below w.heap.size w w' := by
  have hfit2 := fun w' (hb : Below w.heap.size w w') => fits11_ok u ys w' (OldRow.below hu hb)
  obtain ⟨a, cp, rfl, hat⟩ := OldRow.cells cells1_len hv
  obtain ⟨b, cq, rfl, hbt⟩ := OldRow.cells cellsA_len hu
  refine calls1 (args := [.slice b ys.length cq, .slice a xs.length cp]) Try.func4 rfl rfl rfl rfl ?_
  cases hq2 : fitA ys
  · rw [hq2] at hfit2
    repeat' (first | refine aw_seq ?_ | refine zz ?_ | refine zon fun _ => ?_ | refine zoa fun vr lr hr => ?_ | ((first | apply ao_call | apply aq_call); exact wants_a; (first | exact oc_func rfl | exact oc_clos rfl rfl | exact oc_bnd rfl rfl); (exact rfl); (first | exact fun w hw => hfit2 w hw.below | exact fun w hw => alive_ok w)) | refine zoS (fun _ => ?_) (fun _ => ?_) | refine zqS (fun _ => ?_) (fun _ => ?_) | refine zwS (fun _ => ?_) (fun _ => ?_))
    exact fun w' hw => ⟨rfl, hw.below⟩
  rw [hq2] at hfit2
  obtain ⟨h60b, hks2⟩ := fitA_wf hq2
  by_cases h60 : 60 < xs.length
  · repeat' (first | refine aw_seq ?_ | refine zz ?_ | refine zon fun _ => ?_ | refine zoa fun vr lr hr => ?_ | ((first | apply ao_call | apply aq_call); exact wants_a; (first | exact oc_func rfl | exact oc_clos rfl rfl | exact oc_bnd rfl rfl); (exact rfl); (first | exact fun w hw => hfit2 w hw.below | exact fun w hw => alive_ok w)) | refine zoS (fun _ => ?_) (fun _ => ?_) | refine zqS (fun _ => ?_) (fun _ => ?_) | refine zwS (fun _ => ?_) (fun _ => ?_))
    exact fun w' hw => ⟨rfl, hw.below⟩
  repeat' (first | refine aw_seq ?_ | refine zz ?_ | refine zon fun _ => ?_ | refine zoa fun vr lr hr => ?_ | ((first | apply ao_call | apply aq_call); exact wants_a; (first | exact oc_func rfl | exact oc_clos rfl rfl | exact oc_bnd rfl rfl); (exact rfl); (first | exact fun w hw => hfit2 w hw.below)) | ((apply ao_callD; exact wants_a; (exact oc_func rfl); (exact rfl); (intro w hw; exact tnew_ok w); intro vr lr hr; obtain ⟨gt, hvr, hL⟩ := hr; subst hvr)) | refine zoS (fun _ => ?_) (fun _ => ?_) | refine zqS (fun _ => ?_) (fun _ => ?_) | refine zwS (fun _ => ?_) (fun _ => ?_))
  clear hfit2
  refine aw_for (t0 := [(0, .slice b ys.length cq), (1, .slice a xs.length cp), (6, .pointer (some ⟨gt, 0, none⟩)), (7, I (0 : Nat))]) (fun q t H => ∃ (i : Nat) (tr : Tr) (l : Hp), q = ys.length - i ∧ i ≤ ys.length ∧ LTr tr gt l ∧ FitT tr ∧
      t = [(0, .slice b ys.length cq), (1, .slice a xs.length cp), (6, .pointer (some ⟨gt, 0, none⟩)), (7, I i)] ∧ H = l ++ [])
    ⟨0, Tr.new, lr, rfl, by omega, hL, FitT.new, rfl, rfl⟩ (by repeat (first | exact sub_nil | refine sub_cons rfl ?_)) ?_
  clear hL
  rintro q t H ⟨i, tr, l, rfl, hi, hL, hF, rfl, rfl⟩
  by_cases hlt : i < ys.length
  · obtain ⟨⟨kind, n, o⟩, he⟩ := getP hlt
    have m1 := List.mem_of_getElem? he
    have hk0 := hn _ m1
    have hkk := hks2 _ m1
    obtain ⟨ga, o1, rfl, hg, hc⟩ := hbt i _ (i : Int) he rfl
    have cA : ∀ (j : Nat) z, [.int .u8 kind, S n, S o][j]? = some z → w.cell? ⟨ga, o1 + (i : Int).toNat * 3 + j, none⟩ = some z := hc
    have hdo := fun m R => ldo_ok (m := m) (w0 := w) hL hF ⟨kind, n, o⟩ hk0 hkk R
    have hF2 := fit_doT hF kind hkk.1 o
    unfold LDid at hdo
    simp only at hdo hF2
    generalize doT (Lab.rightB n) tr kind n o = X at hdo hF2
    obtain ⟨er, t2⟩ := X
    simp only at hdo hF2
    repeat' (first | refine aw_seq ?_ | ((first | apply ao_val | apply aq_val); exact wants_a; (first | exact ov_load_oa rfl hg cA rfl | exact ov_a); (exact rfl)) | refine zy ?_ | refine zon fun _ => ?_ | refine zoa fun vr lr hr => ?_ | ((apply ao_callH (l := l); exact wants_a; (exact oc_func rfl); (exact rfl); (exact cut_a); (exact hdo _ _); rintro _ _ ⟨rfl, l2, rfl, hL2⟩)) | refine zoS (fun _ => ?_) (fun _ => ?_) | refine zqS (fun _ => ?_) (fun _ => ?_) | refine zwS (fun _ => ?_) (fun _ => ?_))
    exact lq_normal' ⟨i + 1, t2, l2, rfl, by omega, hL2, hF2, rfl, rfl⟩ (by omega) (by repeat (first | exact sub_nil | refine sub_cons rfl ?_)) hsub_a
  obtain rfl : i = ys.length := by omega
  clear hlt hi hbt hks2 hq2 hu hn
  repeat' (first | refine aw_seq ?_ | refine zz ?_ | refine zon fun _ => ?_ | refine zoa fun vr lr hr => ?_ | ((apply ao_callD; exact wants_a; (exact oc_func rfl); (exact rfl); (intro w hw; exact mnew_ok w); intro vr h0 hr; obtain ⟨gm, hvr, hM⟩ := hr; subst hvr)) | refine zoS (fun _ => ?_) (fun _ => ?_) | refine zqS (fun _ => ?_) (fun _ => ?_) | refine zwS (fun _ => ?_) (fun _ => ?_))
  refine aw_for (t0 := [(1, .slice a xs.length cp), (6, .pointer (some ⟨gt, 0, none⟩)), (8, .pointer (some ⟨gm, 0, none⟩)), (9, I (0 : Nat))]) (fun q t H => ∃ (i : Nat) (mk : Mk) (hm : Hp), q = xs.length - i ∧ i ≤ xs.length ∧ LMk mk gm hm ∧ FitM mk ∧ ClosedM tr mk ∧
      t = [(1, .slice a xs.length cp), (6, .pointer (some ⟨gt, 0, none⟩)), (8, .pointer (some ⟨gm, 0, none⟩)), (9, I i)] ∧ H = hm ++ (l ++ []))
    ⟨0, [], h0, rfl, by omega, hM, FitM.new, (fun s hs => by cases hs), rfl, rfl⟩ (by repeat (first | exact sub_nil | refine sub_cons rfl ?_)) ?_
  clear hM
  rintro q t H ⟨i, mk, hm, rfl, hi, hM, hFM, hCM, rfl, rfl⟩
  have hmle := Nat.le_trans (closed_le hFM.rise hCM) hF.len
  by_cases hlt : i < xs.length
  · obtain ⟨x, he⟩ := getP hlt
    obtain ⟨ga, o1, rfl, hg, hc⟩ := hat i _ (i : Int) he rfl
    have cX : w.cell? ⟨ga, o1 + (i : Int).toNat * 1, none⟩ = some (S x) := hc 0 _ rfl
    have hpa := fun w' (hl : Lies w' l) => tpath_ok hL hF x w' hl
    have p8 := hF.p8 x
    have hnm := fun e (he : e ∈ pathT tr x) => path_nm hF he
    have hC2 := closed_mark hF.wf hCM x
    generalize pathT tr x = P at hpa p8 hnm hC2
    have hF2 := hFM.marks (ks := P) (by omega) hnm
    have hmk := fun {m} {v lv R R2} hr hc => mmark_row (m := m) (w0 := w) (v := v) (lv := lv) (R2 := R2) hM hFM (ks := P) (by omega) hnm R hr hc
    repeat' (first | refine aw_seq ?_ | refine zz ?_ | refine zon fun _ => ?_ | refine zoa fun vr lr hr => ?_ | (apply ao_callr; exact wants_a; (exact oc_func rfl); (exact rfl); (first | exact fun w hw => hpa w (lies_of hw (l := l) cut_a)); intro vr lr hr) | ((apply ao_callH (l := hm); exact wants_a; (exact oc_func rfl); (exact rfl); (exact cut_a); (exact hmk (by assumption) cut_a); rintro _ _ ⟨rfl, hm2, rfl, hM2⟩)) | refine zoS (fun _ => ?_) (fun _ => ?_) | refine zqS (fun _ => ?_) (fun _ => ?_) | refine zwS (fun _ => ?_) (fun _ => ?_))
    exact lq_normal' ⟨i + 1, _, hm2, rfl, by omega, hM2, hF2, hC2, rfl, rfl⟩ (by omega) (by repeat (first | exact sub_nil | refine sub_cons rfl ?_)) hsub_a
  obtain rfl : i = xs.length := by omega
  clear hlt hi
  have hal := fun w' (hl : Lies w' hm) => mall_ok hM hFM w' hl
  repeat' (first | refine aw_seq ?_ | ((first | apply ao_val | apply aq_val); exact wants_a; (first | exact ov_lenr rfl (by assumption) | exact ov_a); (exact rfl)) | refine zy ?_ | refine zon fun _ => ?_ | refine zoa fun vr lr hr => ?_ | (apply ao_callr; exact wants_a; (exact oc_func rfl); (exact rfl); (first | exact fun w hw => hal w (lies_of hw (l := hm) cut_a)); intro vr lr hr) | refine zoS (fun _ => ?_) (fun _ => ?_) | refine zqS (fun _ => ?_) (fun _ => ?_) | refine zwS (fun _ => ?_) (fun _ => ?_))
  clear hal
  refine aw_forH (t0 := [(6, .pointer (some ⟨gt, 0, none⟩)), (8, .pointer (some ⟨gm, 0, none⟩)), (10, I mk.length), (11, I (0 : Nat))]) (fun q t H => ∃ (i : Nat) (m2 : Mk) (hm2 : Hp), q = m2.length ∧ i + m2.length = mk.length ∧ LMk m2 gm hm2 ∧ FitM m2 ∧ ClosedM tr m2 ∧
      t = [(6, .pointer (some ⟨gt, 0, none⟩)), (8, .pointer (some ⟨gm, 0, none⟩)), (10, I mk.length), (11, I i)] ∧ H = hm2 ++ (l ++ []))
    ⟨0, mk, hm, rfl, Nat.zero_add _, hM, hFM, hCM, rfl, rfl⟩ (by repeat (first | exact sub_nil | refine sub_cons rfl ?_)) hsub_a ?_
  clear hM hFM hCM vr lr hr
  rintro q t H ⟨i, m2, hm2, rfl, hsum, hM, hFM, hCM, rfl, rfl⟩
  have hnl := fun w' (hl : Lies w' hm2) (hlt : Lies w' l) => mnext_ok hM hFM hL hF w' hl hlt
  by_cases hlt : 0 < m2.length
  · have hlt2 : (i : Int) < mk.length := by omega
    obtain ⟨f1, f2, f3⟩ := next_facts hF hCM hlt
    rw [f1] at hnl
    generalize (nextL tr m2).1 = s at hnl f2 f3
    have hbe := fun w' (hl : Lies w' l) => tbelow_ok hL hF s w' hl
    have hbf : ∀ x ∈ belowT tr s, x ≠ s → decide (x ∈ m2) = false := fun x hx hne => by
      have h1 : hasT tr x = true := by
        unfold belowT at hx
        obtain ⟨e, he, rfl⟩ := List.mem_map.1 hx
        exact has_iff.2 ⟨e, (List.mem_filter.1 he).1, rfl⟩
      exact decide_eq_false (next_below hF.wf f3 h1 ((below_iff h1).1 hx) hne)
    have hbl := hF.bl s
    generalize belowT tr s = B at hbe hbf hbl
    have hha := fun x w' (hl : Lies w' hm2) => mhas_ok hM hFM x w' hl
    repeat' (first | refine aw_seq ?_ | refine zz ?_ | refine zon fun _ => ?_ | refine zoa fun vr lr hr => ?_ | ((first | apply ao_call | apply aq_call); exact wants_a; (first | exact oc_func rfl | exact oc_clos rfl rfl | exact oc_bnd rfl rfl); (exact rfl); (first | exact fun w hw => hnl w (lies_of hw (l := hm2) cut_a) (lies_of hw (l := l) cut_a))) | (apply ao_callr; exact wants_a; (exact oc_func rfl); (exact rfl); (first | exact fun w hw => hbe w (lies_of hw (l := l) cut_a)); intro vr lr hr) | refine zoS (fun _ => ?_) (fun _ => ?_) | refine zqS (fun _ => ?_) (fun _ => ?_) | refine zwS (fun _ => ?_) (fun _ => ?_))
    obtain ⟨aB, cB, hvB⟩ := hr.len
    subst hvB
    refine aw_forH (t0 := [(6, .pointer (some ⟨gt, 0, none⟩)), (8, .pointer (some ⟨gm, 0, none⟩)), (10, I mk.length), (11, I i), (12, S s), (13, .bool true), (14, .slice aB B.length cB), (15, I (0 : Nat))]) (fun q t H => ∃ k : Nat, q = B.length - k ∧ k ≤ B.length ∧ t = [(6, .pointer (some ⟨gt, 0, none⟩)), (8, .pointer (some ⟨gm, 0, none⟩)), (10, I mk.length), (11, I i), (12, S s), (13, .bool true), (14, .slice aB B.length cB), (15, I k)] ∧ H = lr ++ (hm2 ++ (l ++ [])))
      ⟨0, rfl, by omega, rfl, rfl⟩ (by repeat (first | exact sub_nil | refine sub_cons rfl ?_)) hsub_a ?_
    rintro q t H ⟨k, rfl, hk, rfl, rfl⟩
    by_cases hlk : k < B.length
    · obtain ⟨x, hx⟩ := getP hlk
      obtain ⟨gB, capB, csB, e1, e2, hcB⟩ := RowB.cells cells1_len hr hx
      cases e1
      subst e2
      have cX : csB[0 + (k : Int).toNat * 1]? = some (S x) := by rw [Int.toNat_natCast]; exact hcB 0 _ rfl
      by_cases hxs : x = s
      · have b1 : (!(x == s)) = false := by rw [beq_iff_eq.2 hxs]; rfl
        repeat' (first | refine aw_seq ?_ | refine zz ?_ | refine zon fun _ => ?_ | refine zoa fun vr lr hr => ?_ | refine zoS (fun _ => ?_) (fun _ => ?_) | refine zqS (fun _ => ?_) (fun _ => ?_) | refine zwS (fun _ => ?_) (fun _ => ?_))
        exact lq_normal' ⟨k + 1, rfl, by omega, rfl, rfl⟩ (by omega) (by repeat (first | exact sub_nil | refine sub_cons rfl ?_)) hsub_a
      · have b1 : (!(x == s)) = true := by rw [beq_eq_false_iff_ne.2 hxs]; rfl
        have hhx := fun w' hl => hha x w' hl
        rw [hbf x (List.mem_of_getElem? hx) hxs] at hhx
        repeat' (first | refine aw_seq ?_ | refine zz ?_ | refine zon fun _ => ?_ | refine zoa fun vr lr hr => ?_ | ((first | apply ao_call | apply aq_call); exact wants_a; (first | exact oc_func rfl | exact oc_clos rfl rfl | exact oc_bnd rfl rfl); (exact rfl); (first | exact fun w hw => hhx w (lies_of hw (l := hm2) cut_a))) | refine zoS (fun _ => ?_) (fun _ => ?_) | refine zqS (fun _ => ?_) (fun _ => ?_) | refine zwS (fun _ => ?_) (fun _ => ?_))
        exact lq_normal' ⟨k + 1, rfl, by omega, rfl, rfl⟩ (by omega) (by repeat (first | exact sub_nil | refine sub_cons rfl ?_)) hsub_a
    obtain rfl : k = B.length := by omega
    have hhs := fun w' hl => hha s w' hl
    rw [decide_eq_true f2] at hhs
    have hth := fun w' (hl : Lies w' l) => thas_ok hL hF s w' hl
    rw [(hCM s f2).1] at hth
    have hcl := fun m R => mclear_ok (m := m) (w0 := w) hM hFM s R
    have e2 : clearL m2 s = (m2.filter fun x => decide (x ≠ s), 0) := by unfold clearL; rw [if_pos f2]
    have hF3 := hFM.clear s
    have hC3 := closed_clear hF.wf hCM f3
    have hl3 := clear_one (rise_nodup hFM.rise) f2
    unfold MDid at hcl
    rw [e2] at hcl hF3
    generalize (m2.filter fun x => decide (x ≠ s)) = m3 at hcl hF3 hC3 hl3
    simp only at hcl hF3
    have b4 : ((m3.length : Int) != (mk.length : Int) - 1 - (i : Int)) = false := by rw [show (mk.length : Int) - 1 - i = m3.length by omega]; exact bne_self_eq_false _
    repeat' (first | refine aw_seq ?_ | ((first | apply ao_val | apply aq_val); exact wants_a; (first | exact ov_lenr rfl (by assumption) | exact ov_a); (exact rfl)) | refine zy ?_ | refine zon fun _ => ?_ | refine zoa fun vr lr hr => ?_ | ((first | apply ao_call | apply aq_call); exact wants_a; (first | exact oc_func rfl | exact oc_clos rfl rfl | exact oc_bnd rfl rfl); (exact rfl); (first | exact fun w hw => hhs w (lies_of hw (l := hm2) cut_a) | exact fun w hw => hth w (lies_of hw (l := l) cut_a))) | (apply ao_callr; exact wants_a; (exact oc_func rfl); (exact rfl); (first | exact fun w hw => hal3 w (lies_of hw (l := hm3) cut_a)); intro vr lr hr) | ((apply ao_callH (l := hm2); exact wants_a; (exact oc_func rfl); (exact rfl); (exact cut_a); (exact hcl _ _); rintro _ _ ⟨rfl, hm3, rfl, hM3⟩; have hal3 := fun w' (hl : Lies w' hm3) => mall_ok hM3 hF3 w' hl)) | refine zoS (fun _ => ?_) (fun _ => ?_) | refine zqS (fun _ => ?_) (fun _ => ?_) | refine zwS (fun _ => ?_) (fun _ => ?_))
    revert vr lr hr
    intro v3 l3 r3
    obtain ⟨aC, cC, hvC⟩ := r3.len
    subst hvC
    have hh3 := fun x w' (hl : Lies w' hm3) => mhas_ok hM3 hF3 x w' hl
    refine aw_forH (t0 := [(6, .pointer (some ⟨gt, 0, none⟩)), (8, .pointer (some ⟨gm, 0, none⟩)), (10, I mk.length), (11, I i), (16, .slice aC m3.length cC), (17, I (0 : Nat))]) (fun q t H => ∃ k : Nat, q = m3.length - k ∧ k ≤ m3.length ∧ t = [(6, .pointer (some ⟨gt, 0, none⟩)), (8, .pointer (some ⟨gm, 0, none⟩)), (10, I mk.length), (11, I i), (16, .slice aC m3.length cC), (17, I k)] ∧ H = l3 ++ (hm3 ++ (l ++ [])))
      ⟨0, rfl, by omega, rfl, rfl⟩ (by repeat (first | exact sub_nil | refine sub_cons rfl ?_)) hsub_a ?_
    rintro q t H ⟨k, rfl, hk, rfl, rfl⟩
    by_cases hlk : k < m3.length
    · obtain ⟨x, hx⟩ := getP hlk
      have hxm := List.mem_of_getElem? hx
      obtain ⟨gC, capC, csC, e1, e2, hcC⟩ := RowB.cells cells1_len r3 hx
      cases e1
      subst e2
      have cX : csC[0 + (k : Int).toNat * 1]? = some (S x) := by rw [Int.toNat_natCast]; exact hcC 0 _ rfl
      by_cases hxs : x = rootN
      · have b1 : (!(x == rootN)) = false := by rw [beq_iff_eq.2 hxs]; rfl
        repeat' (first | refine aw_seq ?_ | refine zz ?_ | refine zon fun _ => ?_ | refine zoa fun vr lr hr => ?_ | refine zoS (fun _ => ?_) (fun _ => ?_) | refine zqS (fun _ => ?_) (fun _ => ?_) | refine zwS (fun _ => ?_) (fun _ => ?_))
        exact lq_normal' ⟨k + 1, rfl, by omega, rfl, rfl⟩ (by omega) (by repeat (first | exact sub_nil | refine sub_cons rfl ?_)) hsub_a
      · have b1 : (!(x == rootN)) = true := by rw [beq_eq_false_iff_ne.2 hxs]; rfl
        have hpr := fun w' (hl : Lies w' l) => tpar_ok hL hF x w' hl
        have hhx := fun w' hl => hh3 (parT tr x) w' hl
        rw [decide_eq_true (closed_par hF.wf hC3 hxm hxs)] at hhx
        repeat' (first | refine aw_seq ?_ | refine zz ?_ | refine zon fun _ => ?_ | refine zoa fun vr lr hr => ?_ | ((first | apply ao_call | apply aq_call); exact wants_a; (first | exact oc_func rfl | exact oc_clos rfl rfl | exact oc_bnd rfl rfl); (exact rfl); (first | exact fun w hw => hpr w (lies_of hw (l := l) cut_a) | exact fun w hw => hhx w (lies_of hw (l := hm3) cut_a))) | refine zoS (fun _ => ?_) (fun _ => ?_) | refine zqS (fun _ => ?_) (fun _ => ?_) | refine zwS (fun _ => ?_) (fun _ => ?_))
        exact lq_normal' ⟨k + 1, rfl, by omega, rfl, rfl⟩ (by omega) (by repeat (first | exact sub_nil | refine sub_cons rfl ?_)) hsub_a
    obtain rfl : k = m3.length := by omega
    repeat' (first | refine aw_seq ?_ | refine zz ?_ | refine zon fun _ => ?_ | refine zoa fun vr lr hr => ?_ | refine zoS (fun _ => ?_) (fun _ => ?_) | refine zqS (fun _ => ?_) (fun _ => ?_) | refine zwS (fun _ => ?_) (fun _ => ?_))
    exact lq_normal' (H' := hm3 ++ (l ++ [])) ⟨i + 1, m3, hm3, rfl, by omega, hM3, hF3, hC3, rfl, rfl⟩ (by omega) (by repeat (first | exact sub_nil | refine sub_cons rfl ?_)) hsub_a
  · have h0 : m2 = [] := List.eq_nil_of_length_eq_zero (by omega)
    subst h0
    have hi2 : i = mk.length := by simpa using hsum
    subst hi2
    have hal := fun w' (hl : Lies w' hm2) => mall_ok hM hFM w' hl
    rw [show nextL tr [] = ([], false) from rfl] at hnl
    repeat' (first | refine aw_seq ?_ | ((first | apply ao_val | apply aq_val); exact wants_a; (first | exact ov_lenr rfl (by assumption) | exact ov_a); (exact rfl)) | refine zy ?_ | refine zon fun _ => ?_ | refine zoa fun vr lr hr => ?_ | ((first | apply ao_call | apply aq_call); exact wants_a; (first | exact oc_func rfl | exact oc_clos rfl rfl | exact oc_bnd rfl rfl); (exact rfl); (first | exact fun w hw => alive_ok w | exact fun w hw => hnl w (lies_of hw (l := hm2) cut_a) (lies_of hw (l := l) cut_a))) | (apply ao_callr; exact wants_a; (exact oc_func rfl); (exact rfl); (first | exact fun w hw => hal w (lies_of hw (l := hm2) cut_a)); intro vr lr hr) | refine zoS (fun _ => ?_) (fun _ => ?_) | refine zqS (fun _ => ?_) (fun _ => ?_) | refine zwS (fun _ => ?_) (fun _ => ?_))
    exact fun w' hw => ⟨rfl, hw.below⟩
end Mkt
end Go.Proofs.Ytonhfddklkbnbaa
