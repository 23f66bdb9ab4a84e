/- LocalLoads, walked: any objects loaded into sums leave them as the document says; conditions: none. -/
import Derived.Test.YtdakeicfhbggeaaGreatLcp
namespace Go.Proofs.YtdakeicfhbggeaaGreat
namespace Lct
open Go Go.RowKit Sx Vec Ojt Scp
attribute [local irreducible] Go.Calls
set_option maxHeartbeats 64000000 in
set_option maxRecDepth 20000 in
theorem loads_ok (v0 va vb : Value) (ss : List Sc) (os qs : List Evt.PO) (hno : ∀ p ∈ os, numR p.2.rs) (hnq : ∀ p ∈ qs, numR p.2.rs) (s : List UInt8) (w : World) (hv : ScsAt w v0 ss) (ho : Evt.ObjsAt w va os) (hq : Evt.ObjsAt w vb qs) :
    Calls Tryz.prog 4 #[v0, .agg #[va, vb], S s] w fun e w' => e = .returned (.bool true) ∧ Below w.heap.size w w' := by
  obtain ⟨a, cp, rfl, hat⟩ := OldRow.cells cellsSc_len hv.1
  have hfit := fun w' (hb : Below w.heap.size w w') => fits13_ok _ ss w' (hv.below hb)
  obtain ⟨oa, oc, rfl, hoat⟩ := OldRow.cells Evt.cellsO_len ho.1
  obtain ⟨qa, qc, rfl, hqat⟩ := OldRow.cells Evt.cellsO_len hq.1
  refine calls1 (args := [.slice a ss.length cp, .agg #[.slice oa os.length oc, .slice qa qs.length qc], S s]) Tryz.func4 rfl rfl rfl rfl ?_
  cases hfs : fitSc ss
  · rw [hfs] at hfit
    repeat' (first | refine aw_seq ?_ | refine zz ?_ | refine zon fun _ => ?_ | refine zoa fun vr lr hr => ?_ | ((first | apply ao_call | apply aq_call); exact wants_a; (first | exact oc_func rfl | exact oc_clos rfl rfl | exact oc_bnd rfl rfl); (exact rfl); (first | exact fun w hw => hfit w hw.below | exact fun w hw => alive_ok w)) | refine zoS (fun _ => ?_) (fun _ => ?_) | refine zqS (fun _ => ?_) (fun _ => ?_) | refine zwS (fun _ => ?_) (fun _ => ?_))
    exact fun w' hw => ⟨rfl, hw.below⟩
  rw [hfs] at hfit
  obtain ⟨hsl, hws⟩ := fitSc_wf hfs
  by_cases h1 : 20 < os.length
  · repeat' (first | refine aw_seq ?_ | refine zz ?_ | refine zon fun _ => ?_ | refine zoa fun vr lr hr => ?_ | ((first | apply ao_call | apply aq_call); exact wants_a; (first | exact oc_func rfl | exact oc_clos rfl rfl | exact oc_bnd rfl rfl); (exact rfl); (first | exact fun w hw => hfit w hw.below | exact fun w hw => alive_ok w)) | refine zoS (fun _ => ?_) (fun _ => ?_) | refine zqS (fun _ => ?_) (fun _ => ?_) | refine zwS (fun _ => ?_) (fun _ => ?_))
    all_goals exact fun w' hw => ⟨rfl, hw.below⟩
  by_cases h2 : 20 < qs.length
  · repeat' (first | refine aw_seq ?_ | refine zz ?_ | refine zon fun _ => ?_ | refine zoa fun vr lr hr => ?_ | ((first | apply ao_call | apply aq_call); exact wants_a; (first | exact oc_func rfl | exact oc_clos rfl rfl | exact oc_bnd rfl rfl); (exact rfl); (first | exact fun w hw => hfit w hw.below | exact fun w hw => alive_ok w)) | refine zoS (fun _ => ?_) (fun _ => ?_) | refine zqS (fun _ => ?_) (fun _ => ?_) | refine zwS (fun _ => ?_) (fun _ => ?_))
    all_goals exact fun w' hw => ⟨rfl, hw.below⟩
  by_cases h3 : 200 < s.length
  · repeat' (first | refine aw_seq ?_ | refine zz ?_ | refine zon fun _ => ?_ | refine zoa fun vr lr hr => ?_ | ((first | apply ao_call | apply aq_call); exact wants_a; (first | exact oc_func rfl | exact oc_clos rfl rfl | exact oc_bnd rfl rfl); (exact rfl); (first | exact fun w hw => hfit w hw.below | exact fun w hw => alive_ok w)) | refine zoS (fun _ => ?_) (fun _ => ?_) | refine zqS (fun _ => ?_) (fun _ => ?_) | refine zwS (fun _ => ?_) (fun _ => ?_))
    all_goals exact fun w' hw => ⟨rfl, hw.below⟩
  repeat' (first | refine aw_seq ?_ | refine zz ?_ | refine zon fun _ => ?_ | refine zoa fun vr lr hr => ?_ | ((first | apply ao_call | apply aq_call); exact wants_a; (first | exact oc_func rfl | exact oc_clos rfl rfl | exact oc_bnd rfl rfl); (exact rfl); (first | exact fun w hw => hfit w hw.below)) | refine zoS (fun _ => ?_) (fun _ => ?_) | refine zqS (fun _ => ?_) (fun _ => ?_) | refine zwS (fun _ => ?_) (fun _ => ?_))
  rename_i b4
  have hel : ∀ i : Nat, i < 2 → ∃ (ta : Option Addr) (xs : List Evt.PO) (tc : Nat), [Value.slice oa os.length oc, .slice qa qs.length qc][i]? = some (.slice ta xs.length tc) ∧ [os, qs][i]? = some xs ∧ xs.length ≤ 20 ∧ (∀ p ∈ xs, numR p.2.rs) ∧ Evt.ObjsAt w (.slice ta xs.length tc) xs := fun i h => by
    match i, h with
    | 0, _ => exact ⟨oa, os, oc, rfl, rfl, by omega, hno, ho⟩
    | 1, _ => exact ⟨qa, qs, qc, rfl, rfl, by omega, hnq, hq⟩
  clear hoat hqat
  refine aw_for (t0 := [(0, .slice a ss.length cp), (2, S s), (4, .pointer (some ⟨b4, 0, none⟩)), (8, I (0 : Nat))]) (fun q t H => ∃ i : Nat, q = 2 - i ∧ i ≤ 2 ∧ (∀ (j : Nat) xs, j < i → [os, qs][j]? = some xs → ∀ p ∈ xs, fitO p.2 = true) ∧ t = [(0, .slice a ss.length cp), (2, S s), (4, .pointer (some ⟨b4, 0, none⟩)), (8, I i)] ∧ H = [(b4, .cells #[.slice oa os.length oc, .slice qa qs.length qc] 55 (0, 0))])
    ⟨0, rfl, by omega, fun j xs hj => by omega, rfl, rfl⟩ (by repeat (first | exact sub_nil | refine sub_cons rfl ?_)) ?_
  rintro q t H ⟨i, rfl, hi, hall, rfl, rfl⟩
  by_cases hlt : i < 2
  · obtain ⟨ta, xs, tc, e1, e2, hx20, hnx, hxo⟩ := hel i hlt
    obtain ⟨a2, c2, e3, hxat⟩ := OldRow.cells Evt.cellsO_len hxo.1
    simp only [Value.slice.injEq] at e3
    obtain ⟨rfl, -, -⟩ := e3
    have cV : [Value.slice oa os.length oc, .slice qa qs.length qc][0 + (i : Int).toNat * 1]? = some (.slice ta xs.length tc) := by
      rw [Int.toNat_natCast, Nat.mul_one, Nat.zero_add]
      exact e1
    repeat' (first | refine aw_seq ?_ | refine zz ?_ | refine zon fun _ => ?_ | refine zoa fun vr lr hr => ?_ | refine zoS (fun _ => ?_) (fun _ => ?_) | refine zqS (fun _ => ?_) (fun _ => ?_) | refine zwS (fun _ => ?_) (fun _ => ?_))
    refine aw_for (t0 := [(0, .slice a ss.length cp), (2, S s), (4, .pointer (some ⟨b4, 0, none⟩)), (8, I i), (9, I (0 : Nat))]) (fun q t H => ∃ k : Nat, q = xs.length - k ∧ k ≤ xs.length ∧ (∀ (j : Nat) p, j < k → xs[j]? = some p → fitO p.2 = true) ∧ t = [(0, .slice a ss.length cp), (2, S s), (4, .pointer (some ⟨b4, 0, none⟩)), (8, I i), (9, I k)] ∧ H = [(b4, .cells #[.slice oa os.length oc, .slice qa qs.length qc] 55 (0, 0))])
      ⟨0, rfl, by omega, fun j xs hj => by omega, rfl, rfl⟩ (by repeat (first | exact sub_nil | refine sub_cons rfl ?_)) ?_
    rintro q t H ⟨k, rfl, hk, hallk, rfl, rfl⟩
    by_cases hkl : k < xs.length
    · obtain ⟨⟨y, r⟩, hx⟩ := getP hkl
      have m1 := List.mem_of_getElem? hx
      obtain ⟨g, o1, rfl, hg, hc⟩ := hxat k _ (k : Int) hx rfl
      have hr := fun w' (hb : Below w.heap.size w w') => Ojt.fits_ok r y w' ((hxo.2 _ m1).below hb)
      have cA : ∀ (j : Nat) z, [S r.k, S r.s, S r.n, I r.ver, S r.c, .bool r.tm, .bool r.bs, y][j]? = some z → w.cell? ⟨g, o1 + (k : Int).toNat * 8 + j, none⟩ = some z := hc
      cases hq : fitO r
      · rw [hq] at hr
        repeat' (first | refine aw_seq ?_ | ((first | apply ao_val | apply aq_val); exact wants_a; (first | exact ov_load_oa rfl hg cA rfl | exact ov_a); (exact rfl)) | refine zy ?_ | refine zon fun _ => ?_ | refine zoa fun vr lr hr => ?_ | ((first | apply ao_call | apply aq_call); exact wants_a; (first | exact oc_func rfl | exact oc_clos rfl rfl | exact oc_bnd rfl rfl); (exact rfl); (first | exact fun w hw => hr w hw.below | exact fun w hw => alive_ok w)) | refine zoS (fun _ => ?_) (fun _ => ?_) | refine zqS (fun _ => ?_) (fun _ => ?_) | refine zwS (fun _ => ?_) (fun _ => ?_))
        exact fun w' hw => ⟨rfl, hw.below⟩
      · rw [hq] at hr
        repeat' (first | refine aw_seq ?_ | ((first | apply ao_val | apply aq_val); exact wants_a; (first | exact ov_load_oa rfl hg cA rfl | exact ov_a); (exact rfl)) | refine zy ?_ | refine zon fun _ => ?_ | refine zoa fun vr lr hr => ?_ | ((first | apply ao_call | apply aq_call); exact wants_a; (first | exact oc_func rfl | exact oc_clos rfl rfl | exact oc_bnd rfl rfl); (exact rfl); (first | exact fun w hw => hr w hw.below | exact fun w hw => alive_ok w)) | refine zoS (fun _ => ?_) (fun _ => ?_) | refine zqS (fun _ => ?_) (fun _ => ?_) | refine zwS (fun _ => ?_) (fun _ => ?_))
        exact lq_normal' ⟨k + 1, rfl, by omega, fun j z hj hz => by
          by_cases e1 : j = k
          · subst e1; rw [hx] at hz; cases hz; exact hq
          · exact hallk j z (by omega) hz, rfl, rfl⟩ (by omega) (by repeat (first | exact sub_nil | refine sub_cons rfl ?_)) hsub_a
    · obtain rfl : k = xs.length := by omega
      repeat' (first | refine aw_seq ?_ | refine zz ?_ | refine zon fun _ => ?_ | refine zoa fun vr lr hr => ?_ | refine zoS (fun _ => ?_) (fun _ => ?_) | refine zqS (fun _ => ?_) (fun _ => ?_) | refine zwS (fun _ => ?_) (fun _ => ?_))
      exact lq_normal' ⟨i + 1, rfl, by omega, fun j z hj hz => by
        by_cases e4 : j = i
        · subst e4; rw [e2] at hz; cases hz
          exact fun p hp => by
            obtain ⟨j, hj⟩ := List.getElem?_of_mem hp
            exact hallk j p (List.getElem?_eq_some_iff.1 hj).1 hj
        · exact hall j z (by omega) hz, rfl, rfl⟩ (by omega) (by repeat (first | exact sub_nil | refine sub_cons rfl ?_)) hsub_a
  obtain rfl : i = 2 := by omega
  have hwo : ∀ (i : Nat) xs, [os, qs][i]? = some xs → (∀ p ∈ xs, numR p.2.rs) → ∀ p ∈ xs, wfO p.2 := fun i xs h hn p hp => (fit_wf (hall i xs (List.getElem?_eq_some_iff.1 h).1 h p hp) (hn p hp)).1
  clear hall hlt hi
  cases hr : rightScs (scT ss)
  · have hnew := fun w' (hb : Below w.heap.size w w') => lonew_f (hv.below hb) hws hsl hr
    repeat' (first | refine aw_seq ?_ | ((first | apply ao_val | apply aq_val); exact wants_a; (first | exact ov_peq0 rfl rfl | exact ov_a); (exact rfl)) | refine zy ?_ | refine zon fun _ => ?_ | refine zoa fun vr lr hr => ?_ | ((first | apply ao_call | apply aq_call); exact wants_a; (first | exact oc_func rfl | exact oc_clos rfl rfl | exact oc_bnd rfl rfl); (exact rfl); (first | exact fun w hw => alive_ok w | exact fun w hw => hnew w hw.below)) | refine zoS (fun _ => ?_) (fun _ => ?_) | refine zqS (fun _ => ?_) (fun _ => ?_) | refine zwS (fun _ => ?_) (fun _ => ?_))
    exact fun w' hw => ⟨rfl, hw.below⟩
  have hnew := fun w' (hb : Below w.heap.size w w') => lonew_t (hv.below hb) hws hsl hr
  have h8 : ss.length ≤ 8 := by
    unfold rightScs at hr
    rw [Bool.and_eq_true, decide_eq_true_eq, List.length_map] at hr
    exact hr.2
  have hscl : (scT ss).length ≤ 8 := by rw [List.length_map]; exact h8
  have hsc20 : (scT ss).length ≤ 20 := by omega
  repeat' (first | refine aw_seq ?_ | ((first | apply ao_val | apply aq_val); exact wants_a; (first | exact ov_peqs rfl rfl | exact ov_a); (exact rfl)) | refine zy ?_ | refine zon fun _ => ?_ | refine zoa fun vr lr hr => ?_ | ((apply ao_callD; exact wants_a; (exact oc_func rfl); (exact rfl); (intro w hw; exact hnew w hw.below); intro vr l0 hr; obtain ⟨gl, hvr, hL⟩ := hr; subst hvr)) | refine zoS (fun _ => ?_) (fun _ => ?_) | refine zqS (fun _ => ?_) (fun _ => ?_) | refine zwS (fun _ => ?_) (fun _ => ?_))
  clear hfit hnew
  refine aw_for (t0 := [(0, .slice a ss.length cp), (2, S s), (4, .pointer (some ⟨b4, 0, none⟩)), (11, .pointer (some ⟨gl, 0, none⟩)), (13, .slice none 0 0), (14, I (0 : Nat))]) (fun q t H => ∃ (i : Nat) (ps : List Pu) (vm : Value) (lg lm : Hp), q = 2 - i ∧ i ≤ 2 ∧ LLo (scT ss) (sums ps) gl lg ∧ BndU 20 (sums ps) ∧ (∀ w'', Lies w'' lm → SumAt w'' vm ps) ∧
      t = [(0, .slice a ss.length cp), (2, S s), (4, .pointer (some ⟨b4, 0, none⟩)), (11, .pointer (some ⟨gl, 0, none⟩)), (13, vm), (14, I i)] ∧ H.Perm (lm ++ (lg ++ [(b4, .cells #[.slice oa os.length oc, .slice qa qs.length qc] 55 (0, 0))])))
    ⟨0, [], _, l0, [], rfl, by omega, hL, BndU.nil.up (by omega), fun w'' _ => sum_nil w'', rfl, List.Perm.refl _⟩ (by repeat (first | exact sub_nil | refine sub_cons rfl ?_)) ?_
  clear hL
  rintro q t H ⟨i, ps, vm, lg, lm, rfl, hi, hL, hB, hF, rfl, hp⟩
  refine aw_permH hp ?_
  clear hp
  by_cases hlt : i < 2
  · obtain ⟨ta, xs, tc, e1, e2, hx20, hnx, hxo⟩ := hel i hlt
    have hwx := hwo i xs e2 hnx
    have cV : [Value.slice oa os.length oc, .slice qa qs.length qc][0 + (i : Int).toNat * 1]? = some (.slice ta xs.length tc) := by
      rw [Int.toNat_natCast, Nat.mul_one, Nat.zero_add]
      exact e1
    have hwl : ∀ o ∈ Evt.obs xs, wfO o := fun o ho => by
      obtain ⟨p, hp, rfl⟩ := List.mem_map.1 ho
      exact hwx p hp
    have hxl : (Evt.obs xs).length ≤ 20 := by rw [List.length_map]; exact hx20
    have hap := fun m R => loload_ok (m := m) (w0 := w) hL hscl (by omega) hwx (smallL_of hsc20 _ hwl BndU.nil (by omega)) R fun n w' hw => hxo.below hw.below
    have hra := fun w' (hb : Below w.heap.size w w') => rload_ok (hv.below hb) hws hsl (hxo.below hb) (by omega) hwx
    have hB2 := (loadS_bnd (scs := scT ss) hsc20 hwl (by omega)).up (m := 20) hxl
    unfold LoadD at hap
    generalize loadS (scT ss) (Evt.obs xs) = X at hap hra hB2
    obtain ⟨L2, er⟩ := X
    simp only at hap hra hB2
    repeat' (first | refine aw_cutI_at (id := 26) (fun t H => ∃ (ps' : List Pu) (vm' : Value) (lg' lm' : Hp), LLo (scT ss) (sums ps') gl lg' ∧ BndU 20 (sums ps') ∧ (∀ w'', Lies w'' lm' → SumAt w'' vm' ps') ∧ t = [(0, .slice a ss.length cp), (2, S s), (4, .pointer (some ⟨b4, 0, none⟩)), (11, .pointer (some ⟨gl, 0, none⟩)), (13, vm'), (14, I i), (15, I er), (17, I er)] ∧ H.Perm (lm' ++ (lg' ++ [(b4, .cells #[.slice oa os.length oc, .slice qa qs.length qc] 55 (0, 0))]))) ?_ ?_ | refine aw_cutI_at2 (id := 26) (fun t H => ∃ (ps' : List Pu) (vm' : Value) (lg' lm' : Hp), LLo (scT ss) (sums ps') gl lg' ∧ BndU 20 (sums ps') ∧ (∀ w'', Lies w'' lm' → SumAt w'' vm' ps') ∧ t = [(0, .slice a ss.length cp), (2, S s), (4, .pointer (some ⟨b4, 0, none⟩)), (11, .pointer (some ⟨gl, 0, none⟩)), (13, vm'), (14, I i), (15, I er), (17, I er)] ∧ H.Perm (lm' ++ (lg' ++ [(b4, .cells #[.slice oa os.length oc, .slice qa qs.length qc] 55 (0, 0))]))) ?_ ?_ | refine aw_seq ?_ | refine zz ?_ | refine zon fun _ => ?_ | refine zoa fun vr lr hr => ?_ | ((apply ao_callH (l := lg); exact wants_a; (exact oc_func rfl); (exact rfl); (exact cut_a); (exact hap _ _); rintro _ _ ⟨rfl, lg2, rfl, hL2⟩)) | ((apply ao_callD; exact wants_a; (exact oc_func rfl); (exact rfl); (intro w hw; exact hra w hw.below); rintro v3 l3 ⟨ps2, e5, hF2⟩)))
    · by_cases h0 : er = 0
      · rw [if_pos h0] at hL2
        subst e5
        repeat' (first | refine aw_seq ?_ | refine zz ?_ | refine zon fun _ => ?_ | refine zoa fun vr lr hr => ?_ | refine zoS (fun _ => ?_) (fun _ => ?_) | refine zqS (fun _ => ?_) (fun _ => ?_) | refine zwS (fun _ => ?_) (fun _ => ?_))
        exact ci_normal (H1 := l3 ++ (lg2 ++ [(b4, .cells #[.slice oa os.length oc, .slice qa qs.length qc] 55 (0, 0))])) ⟨ps2, v3, lg2, l3, hL2, hB2, hF2, rfl, List.Perm.refl _⟩ (by repeat (first | exact sub_nil | refine sub_cons rfl ?_)) hsub_a
      · rw [if_neg h0] at hL2
        have b0 : (er == 0) = false := beq_eq_false_iff_ne.2 h0
        repeat' (first | refine aw_seq ?_ | refine zz ?_ | refine zon fun _ => ?_ | refine zoa fun vr lr hr => ?_ | refine zoS (fun _ => ?_) (fun _ => ?_) | refine zqS (fun _ => ?_) (fun _ => ?_) | refine zwS (fun _ => ?_) (fun _ => ?_))
        exact ci_normal (H1 := lg2 ++ (lm ++ [(b4, .cells #[.slice oa os.length oc, .slice qa qs.length qc] 55 (0, 0))])) ⟨ps, vm, lg2, lm, hL2, hB, hF, rfl, by classical exact List.perm_iff_count.2 fun z => by simp only [List.count_append]; omega⟩ (by repeat (first | exact sub_nil | refine sub_cons rfl ?_)) hsub_a
    rintro t H ⟨ps', vm', lg', lm', hL', hB', hF', rfl, hp⟩
    refine aw_permH hp ?_
    clear hp hap hra hB2 hL hB hF
    have hsa := fun (m : List (List UInt8)) (hm : m.length ≤ 100000) v u w' hv hu => show Calls Tryz.prog 13 #[v, u] w' fun e w'' => e = .returned (.bool true) ∧ Below w'.heap.size w' w'' by
      have := Trt.rtexts_ok m m hm v u w' hv hu
      rwa [beq_self_eq_true] at this
    have hsm := hB'.small (by omega)
    have hpl2 : ps'.length ≤ 40000 := by have := hB'.len; rw [List.length_map] at this; omega
    have hls := fun w' (hl : Lies w' lg') => lospaces_ok hL' hsm w' hl
    have hrs := fun w' (h : SumAt w' vm' ps') => rspaces_ok h hpl2 hsm.sp
    have hss : (spacesS (sums ps')).length ≤ 100000 := by
      have h3 := (spaces_facts (sums ps') [] hsm.sp (fun s hs => by cases hs)).1
      rw [List.length_nil, Nat.zero_add, List.length_map] at h3
      exact Nat.le_trans h3 (by omega)
    have e0 : ((er : Int) != er) = false := bne_self_eq_false _
    generalize hSp : spacesS (sums ps') = spc at hls hrs hss
    repeat' (first | refine aw_seq ?_ | refine zz ?_ | refine zon fun _ => ?_ | refine zoa fun vr lr hr => ?_ | ((first | apply ao_call | apply aq_call); exact wants_a; (first | exact oc_func rfl | exact oc_clos rfl rfl | exact oc_bnd rfl rfl); (exact rfl); (first | exact fun w hw => hsa spc hss _ _ w (hw.oldr (by assumption) cut_a) (hw.oldr (by assumption) cut_a))) | (apply ao_callr; exact wants_a; (exact oc_func rfl); (exact rfl); (first | exact fun w hw => hls w (lies_of hw (l := lg') cut_a) | exact fun w hw => hrs w (hF' w (lies_of hw (l := lm') cut_a))); intro vr lr hr) | refine zoS (fun _ => ?_) (fun _ => ?_) | refine zqS (fun _ => ?_) (fun _ => ?_) | refine zwS (fun _ => ?_) (fun _ => ?_))
    refine aw_forH (t0 := [(0, .slice a ss.length cp), (2, S s), (4, .pointer (some ⟨b4, 0, none⟩)), (11, .pointer (some ⟨gl, 0, none⟩)), (13, vm'), (14, I i), (19, I (0 : Nat))]) (H0 := lm' ++ (lg' ++ [(b4, .cells #[.slice oa os.length oc, .slice qa qs.length qc] 55 (0, 0))])) (fun q t H => ∃ j : Nat, q = ss.length - j ∧ j ≤ ss.length ∧ t = [(0, .slice a ss.length cp), (2, S s), (4, .pointer (some ⟨b4, 0, none⟩)), (11, .pointer (some ⟨gl, 0, none⟩)), (13, vm'), (14, I i), (19, I j)] ∧ H = lm' ++ (lg' ++ [(b4, .cells #[.slice oa os.length oc, .slice qa qs.length qc] 55 (0, 0))]))
      ⟨0, rfl, by omega, rfl, rfl⟩ (by repeat (first | exact sub_nil | refine sub_cons rfl ?_)) hsub_a ?_
    rintro q t H ⟨j, rfl, hj, rfl, rfl⟩
    by_cases hjl : j < ss.length
    · have hsu := fun w' (hl : Lies w' lg') => losum_ok hL' hsm s (j : Int) w' hl
      have hge := fun w' (h : SumAt w' vm' ps') => rgetS_ok h (by omega) (s, (j : Int))
      have hgw := hB'.get (s, (j : Int))
      have hsv := fun u v w' hu hv => show Calls Tryz.prog 16 #[u, v] w' fun e w'' => e = .returned (.bool true) ∧ Below w'.heap.size w' w'' by
        have := Vec.vsame_ok u v (getS (sums ps') (s, (j : Int))) (getS (sums ps') (s, (j : Int))) hgw.1 hgw.1 w' hu hv
        rwa [beq_self_eq_true] at this
      repeat' (first | refine aw_seq ?_ | refine zz ?_ | refine zon fun _ => ?_ | refine zoa fun vr lr hr => ?_ | ((first | apply ao_call | apply aq_call); exact wants_a; (first | exact oc_func rfl | exact oc_clos rfl rfl | exact oc_bnd rfl rfl); (exact rfl); (first | exact fun w hw => hge w (hF' w (lies_of hw (l := lm') cut_a)) | exact fun w hw => hsv _ _ w (hw.oldr (by assumption) cut_a) ((hF' w (lies_of hw (l := lm') cut_a)).get _))) | (apply ao_callr; exact wants_a; (exact oc_func rfl); (exact rfl); (first | exact fun w hw => hsu w (lies_of hw (l := lg') cut_a)); intro vr lr hr) | refine zoS (fun _ => ?_) (fun _ => ?_) | refine zqS (fun _ => ?_) (fun _ => ?_) | refine zwS (fun _ => ?_) (fun _ => ?_))
      exact lq_normal' ⟨j + 1, rfl, by omega, rfl, rfl⟩ (by omega) (by repeat (first | exact sub_nil | refine sub_cons rfl ?_)) hsub_a
    · repeat' (first | refine aw_seq ?_ | refine zz ?_ | refine zon fun _ => ?_ | refine zoa fun vr lr hr => ?_ | refine zoS (fun _ => ?_) (fun _ => ?_) | refine zqS (fun _ => ?_) (fun _ => ?_) | refine zwS (fun _ => ?_) (fun _ => ?_))
      exact lq_normal' ⟨i + 1, ps', vm', lg', lm', rfl, by omega, hL', hB', hF', rfl, List.Perm.refl _⟩ (by omega) (by repeat (first | exact sub_nil | refine sub_cons rfl ?_)) hsub_a
  · obtain rfl : i = 2 := by omega
    repeat' (first | refine aw_seq ?_ | refine zz ?_ | refine zon fun _ => ?_ | refine zoa fun vr lr hr => ?_ | ((first | apply ao_call | apply aq_call); exact wants_a; (first | exact oc_func rfl | exact oc_clos rfl rfl | exact oc_bnd rfl rfl); (exact rfl); (first | exact fun w hw => alive_ok w)) | refine zoS (fun _ => ?_) (fun _ => ?_) | refine zqS (fun _ => ?_) (fun _ => ?_) | refine zwS (fun _ => ?_) (fun _ => ?_))
    exact fun w' hw => ⟨rfl, hw.below⟩
end Lct
end Go.Proofs.YtdakeicfhbggeaaGreat
