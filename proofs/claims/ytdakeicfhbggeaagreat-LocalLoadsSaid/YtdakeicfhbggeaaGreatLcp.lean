/- LocalPlays, walked: any deltas applied to sums leave them as the document says; conditions: none. -/
import Derived.Test.YtdakeicfhbggeaaGreatLch
import Derived.Test.YtdakeicfhbggeaaGreatLcg
import Derived.Test.YtdakeicfhbggeaaGreatScpy
namespace Go.Proofs.YtdakeicfhbggeaaGreat
namespace Lct
open Go Go.RowKit Sx Vec Ojt Scp
attribute [local irreducible] Go.Calls
theorem sum_nil (w : World) : SumAt w (.slice none 0 0) [] := ⟨⟨rfl, none, 0, rfl, fun h => by simp at h⟩, fun p hp => by cases hp⟩
theorem wfP_of {ss ss' : List Sc} (h : scT ss' = scT ss) (hw : ∀ s ∈ ss, wfP s.2) : ∀ s ∈ ss', wfP s.2 := fun s hs => by
  have h1 : trms s.2 ∈ scT ss := by rw [← h]; exact List.mem_map_of_mem hs
  obtain ⟨s2, h2, h3⟩ := List.mem_map.1 h1
  have h4 := hw s2 h2
  have hl : s2.2.length = s.2.length := by have := congrArg List.length h3; rwa [List.length_map, List.length_map] at this
  refine ⟨by rw [← hl]; exact h4.1, fun p hp => ?_⟩
  have h5 : p.2 ∈ trms s2.2 := by rw [h3]; exact List.mem_map_of_mem hp
  obtain ⟨p2, h6, h7⟩ := List.mem_map.1 h5
  rw [← h7]
  exact h4.2 p2 h6
theorem applyS_sp {scs : List (List Trm)} {L : List Su} {ds : List Chm.PD} {k : Nat} (h : BndU k (applyS scs L ds).1) : (applyS scs L ds).2.1.length ≤ 20 * k := by
  unfold applyS at h ⊢
  by_cases h1 : ds.all okP = true
  · rw [if_pos h1] at h ⊢
    by_cases h2 : (applyG scs ds L).2 ≠ 0
    · rw [if_pos h2]
      exact Nat.zero_le _
    · rw [if_neg h2] at h ⊢
      have h3 := (diff_facts L (applyG scs ds L).1 [] h.sp (fun s hs => by cases hs)).1
      have h4 := h.len
      rw [List.length_nil, Nat.zero_add] at h3
      exact Nat.le_trans h3 h4
  · rw [if_neg h1]
    exact Nat.zero_le _
set_option maxHeartbeats 64000000 in
set_option maxRecDepth 20000 in
theorem plays_ok (v0 v1 : Value) (ss : List Sc) (l : List Dl) (hn : numD l) (s : List UInt8) (w : World) (hv : ScsAt w v0 ss) (hu : DlsAt w v1 l) :
    Calls Tryz.prog 3 #[v0, v1, S s] w fun e w' => e = .returned (.bool true) ∧ Below w.heap.size w w' := by
  obtain ⟨a, cp, rfl, hat⟩ := OldRow.cells cellsSc_len hv.1
  obtain ⟨b, cq, rfl, hbt⟩ := OldRow.cells cellsDl_len hu.1
  have hfit := fun w' (hb : Below w.heap.size w w') => fits13_ok _ ss w' (hv.below hb)
  have hfit2 := fun w' (hb : Below w.heap.size w w') => deltas_ok _ l w' (hu.below hb)
  refine calls1 (args := [.slice a ss.length cp, .slice b l.length cq, S s]) Tryz.func3 rfl rfl rfl rfl ?_
  cases hq : fitSc ss
  · rw [hq] at hfit
    generalize fitDl l = z2 at hfit2
    repeat' (first | refine aw_seq ?_ | refine zz ?_ | refine zon fun _ => ?_ | refine zoa fun vr lr hr => ?_ | ((first | apply ao_call | apply aq_call); exact wants_a; (first | exact oc_func rfl | exact oc_clos rfl rfl | exact oc_bnd rfl rfl); (exact rfl); (first | exact fun w hw => hfit w hw.below | exact fun w hw => hfit2 w hw.below | exact fun w hw => alive_ok w)) | refine zoS (fun _ => ?_) (fun _ => ?_) | refine zqS (fun _ => ?_) (fun _ => ?_) | refine zwS (fun _ => ?_) (fun _ => ?_))
    all_goals exact fun w' hw => ⟨rfl, hw.below⟩
  cases hq2 : fitDl l
  · rw [hq] at hfit
    rw [hq2] at hfit2
    repeat' (first | refine aw_seq ?_ | refine zz ?_ | refine zon fun _ => ?_ | refine zoa fun vr lr hr => ?_ | ((first | apply ao_call | apply aq_call); exact wants_a; (first | exact oc_func rfl | exact oc_clos rfl rfl | exact oc_bnd rfl rfl); (exact rfl); (first | exact fun w hw => hfit w hw.below | exact fun w hw => hfit2 w hw.below | exact fun w hw => alive_ok w)) | refine zoS (fun _ => ?_) (fun _ => ?_) | refine zqS (fun _ => ?_) (fun _ => ?_) | refine zwS (fun _ => ?_) (fun _ => ?_))
    all_goals exact fun w' hw => ⟨rfl, hw.below⟩
  rw [hq] at hfit
  rw [hq2] at hfit2
  obtain ⟨hsl, hws⟩ := fitSc_wf hq
  obtain ⟨hll, hwd⟩ := fitDl_wf hq2 hn
  by_cases hs : 200 < s.length
  · repeat' (first | refine aw_seq ?_ | refine zz ?_ | refine zon fun _ => ?_ | refine zoa fun vr lr hr => ?_ | ((first | apply ao_call | apply aq_call); exact wants_a; (first | exact oc_func rfl | exact oc_clos rfl rfl | exact oc_bnd rfl rfl); (exact rfl); (first | exact fun w hw => hfit w hw.below | exact fun w hw => hfit2 w hw.below | exact fun w hw => alive_ok w)) | refine zoS (fun _ => ?_) (fun _ => ?_) | refine zqS (fun _ => ?_) (fun _ => ?_) | refine zwS (fun _ => ?_) (fun _ => ?_))
    exact fun w' hw => ⟨rfl, hw.below⟩
  have hrt := fun w' (hb : Below w.heap.size w w') => rrightS_ok (hv.below hb) (by omega) hws
  cases hr : rightScs (scT ss)
  · rw [hr] at hrt
    have hnew := fun w' (hb : Below w.heap.size w w') => lonew_f (hv.below hb) hws hsl hr
    repeat' (first | refine aw_seq ?_ | ((first | apply ao_val | apply aq_val); exact wants_a; (first | exact ov_peq0 rfl rfl | exact ov_a); (exact rfl)) | refine zy ?_ | refine zon fun _ => ?_ | refine zoa fun vr lr hr => ?_ | ((first | apply ao_call | apply aq_call); exact wants_a; (first | exact oc_func rfl | exact oc_clos rfl rfl | exact oc_bnd rfl rfl); (exact rfl); (first | exact fun w hw => hfit w hw.below | exact fun w hw => hfit2 w hw.below | exact fun w hw => alive_ok w | exact fun w hw => hnew w hw.below | exact fun w hw => hrt w hw.below)) | refine zoS (fun _ => ?_) (fun _ => ?_) | refine zqS (fun _ => ?_) (fun _ => ?_) | refine zwS (fun _ => ?_) (fun _ => ?_))
    exact fun w' hw => ⟨rfl, hw.below⟩
  rw [hr] at hrt
  have hnew := fun w' (hb : Below w.heap.size w w') => lonew_t (hv.below hb) hws hsl hr
  have h8 : ss.length ≤ 8 := by
    unfold rightScs at hr
    rw [Bool.and_eq_true, decide_eq_true_eq, List.length_map] at hr
    exact hr.2
  have hscl : (scT ss).length ≤ 8 := by rw [List.length_map]; exact h8
  have hsc20 : (scT ss).length ≤ 20 := by omega
  repeat' (first | refine aw_seq ?_ | ((first | apply ao_val | apply aq_val); exact wants_a; (first | exact ov_peqs rfl rfl | exact ov_a); (exact rfl)) | refine zy ?_ | refine zon fun _ => ?_ | refine zoa fun vr lr hr => ?_ | ((first | apply ao_call | apply aq_call); exact wants_a; (first | exact oc_func rfl | exact oc_clos rfl rfl | exact oc_bnd rfl rfl); (exact rfl); (first | exact fun w hw => hfit w hw.below | exact fun w hw => hfit2 w hw.below | exact fun w hw => hrt w hw.below)) | ((apply ao_callD; exact wants_a; (exact oc_func rfl); (exact rfl); (intro w hw; exact hnew w hw.below); intro vr l0 hr; obtain ⟨gl, hvr, hL⟩ := hr; subst hvr)) | refine zoS (fun _ => ?_) (fun _ => ?_) | refine zqS (fun _ => ?_) (fun _ => ?_) | refine zwS (fun _ => ?_) (fun _ => ?_))
  clear hfit hfit2 hrt hnew
  refine aw_for (t0 := [(0, .slice a ss.length cp), (1, .slice b l.length cq), (2, S s), (9, .pointer (some ⟨gl, 0, none⟩)), (12, .slice none 0 0), (13, I (0 : Nat))]) (fun q t H => ∃ (i : Nat) (ps : List Pu) (vm : Value) (lg lm : Hp), q = l.length - i ∧ i ≤ l.length ∧ LLo (scT ss) (sums ps) gl lg ∧ BndU (40 * i) (sums ps) ∧ (∀ w'', Lies w'' lm → SumAt w'' vm ps) ∧
      t = [(0, .slice a ss.length cp), (1, .slice b l.length cq), (2, S s), (9, .pointer (some ⟨gl, 0, none⟩)), (12, vm), (13, I i)] ∧ H.Perm (lm ++ (lg ++ [])))
    ⟨0, [], _, l0, [], rfl, by omega, hL, BndU.nil, fun w'' _ => sum_nil w'', rfl, List.Perm.refl _⟩ (by repeat (first | exact sub_nil | refine sub_cons rfl ?_)) ?_
  clear hL
  rintro q t H ⟨i, ps, vm, lg, lm, rfl, hi, hL, hB, hF, rfl, hp⟩
  refine aw_permH hp ?_
  clear hp
  by_cases hlt : i < l.length
  · obtain ⟨⟨u, ds⟩, he⟩ := getP hlt
    have m1 := List.mem_of_getElem? he
    obtain ⟨hdl, hwd1⟩ := hwd _ m1
    have hds := hu.2 _ m1
    simp only at hdl hwd1 hds
    obtain ⟨ga, o1, rfl, hg, hc⟩ := hbt i _ (i : Int) he rfl
    have cU : w.cell? ⟨ga, o1 + (i : Int).toNat * 1, none⟩ = some u := hc 0 _ rfl
    have hap := fun m R => loapply_ok (m := m) (w0 := w) hL hscl (by omega) hwd1 (smallA_of hsc20 ds hwd1 hB (by omega)) R fun n w' hw => hds.below hw.below
    have hra := fun w' (hb : Below w.heap.size w w') (h : SumAt w' vm ps) => rapply_ok (hv.below hb) hws hsl h hB (hds.below hb) (by omega) (by omega) hwd1
    have hB2 := (applyS_bnd (scs := scT ss) hsc20 hwd1 hB (by omega)).up (m := 40 * (i + 1)) (by omega)
    have hspl := applyS_sp (L := sums ps) (ds := ds) hB2
    generalize applyS (scT ss) (sums ps) ds = X at hap hra hB2 hspl
    obtain ⟨L2, sp, er⟩ := X
    unfold ADid at hap
    unfold ApD at hra
    simp only at hap hra hB2 hspl
    have hsa := fun (m : List (List UInt8)) (hm : m.length ≤ 100000) v u w' hv hu => show Calls Tryz.prog 13 #[v, u] w' fun e w'' => e = .returned (.bool true) ∧ Below w'.heap.size w' w'' by
      have := Trt.rtexts_ok m m hm v u w' hv hu
      rwa [beq_self_eq_true] at this
    repeat' (first | refine aw_seq ?_ | refine zz ?_ | refine zon fun _ => ?_ | refine zoa fun vr lr hr => ?_ | ((apply ao_callH (l := lg); exact wants_a; (exact oc_func rfl); (exact rfl); (exact cut_a); (exact hap _ _); rintro _ _ ⟨r1, lr1, lg2, rfl, rfl, hr1, hL2⟩)) | ((apply ao_callD; exact wants_a; (exact oc_func rfl); (exact rfl); (intro w hw; exact hra w hw.below (hF w (lies_of hw (l := lm) cut_a))); rintro _ l3 ⟨r3, v3, ps2, rfl, e2, hF2⟩)) | refine zoS (fun _ => ?_) (fun _ => ?_) | refine zqS (fun _ => ?_) (fun _ => ?_) | refine zwS (fun _ => ?_) (fun _ => ?_))
    subst e2
    have hsm := hB2.small (by omega)
    have hpl2 : ps2.length ≤ 40000 := by have := hB2.len; rw [List.length_map] at this; omega
    have hSu := fun w' hl1 hl2 => hF2 w' (hF w' hl1) hl2
    have hls := fun w' (hl : Lies w' lg2) => lospaces_ok hL2 hsm w' hl
    have hrs := fun w' (h : SumAt w' r3 ps2) => rspaces_ok h hpl2 hsm.sp
    have hss : (spacesS (sums ps2)).length ≤ 100000 := by
      have h3 := (spaces_facts (sums ps2) [] hsm.sp (fun s hs => by cases hs)).1
      rw [List.length_nil, Nat.zero_add, List.length_map] at h3
      exact Nat.le_trans h3 (by omega)
    have e0 : ((er : Int) != er) = false := bne_self_eq_false _
    generalize hSp : spacesS (sums ps2) = spc at hls hrs hss
    repeat' (first | refine aw_seq ?_ | refine zz ?_ | refine zon fun _ => ?_ | refine zoa fun vr lr hr => ?_ | ((first | apply ao_call | apply aq_call); exact wants_a; (first | exact oc_func rfl | exact oc_clos rfl rfl | exact oc_bnd rfl rfl); (exact rfl); (first | exact fun w hw => hsa sp (by omega) _ _ w (hw.oldr hr1 cut_a) (hSu w (lies_of hw (l := lm) cut_a) (lies_of hw (l := l3) cut_a)).2 | exact fun w hw => hsa spc hss _ _ w (hw.oldr (by assumption) cut_a) (hw.oldr (by assumption) cut_a))) | (apply ao_callr; exact wants_a; (exact oc_func rfl); (exact rfl); (first | exact fun w hw => hls w (lies_of hw (l := lg2) cut_a) | exact fun w hw => hrs w (hSu w (lies_of hw (l := lm) cut_a) (lies_of hw (l := l3) cut_a)).1); intro vr lr hr) | refine zoS (fun _ => ?_) (fun _ => ?_) | refine zqS (fun _ => ?_) (fun _ => ?_) | refine zwS (fun _ => ?_) (fun _ => ?_))
    refine aw_forH (t0 := [(0, .slice a ss.length cp), (1, .slice (some ⟨ga, o1, none⟩) l.length cq), (2, S s), (9, .pointer (some ⟨gl, 0, none⟩)), (12, r3), (13, I i), (21, I (((0 : Nat) : Int) - 1))]) (H0 := l3 ++ (lg2 ++ (lm ++ []))) (fun q t H => ∃ j : Nat, q = ss.length + 2 - j ∧ j ≤ ss.length + 2 ∧ t = [(0, .slice a ss.length cp), (1, .slice (some ⟨ga, o1, none⟩) l.length cq), (2, S s), (9, .pointer (some ⟨gl, 0, none⟩)), (12, r3), (13, I i), (21, I ((j : Int) - 1))] ∧ H = l3 ++ (lg2 ++ (lm ++ [])))
      ⟨0, rfl, by omega, rfl, rfl⟩ (by repeat (first | exact sub_nil | refine sub_cons rfl ?_)) hsub_a ?_
    rintro q t H ⟨j, rfl, hj, rfl, rfl⟩
    by_cases hjl : j < ss.length + 2
    · have hsu := fun w' (hl : Lies w' lg2) => losum_ok hL2 hsm s ((j : Int) - 1) w' hl
      have hge := fun w' (h : SumAt w' r3 ps2) => rgetS_ok h (by omega) (s, (j : Int) - 1)
      have hgw := hB2.get (s, (j : Int) - 1)
      have hsv := fun u v w' hu hv => show Calls Tryz.prog 16 #[u, v] w' fun e w'' => e = .returned (.bool true) ∧ Below w'.heap.size w' w'' by
        have := Vec.vsame_ok u v (getS (sums ps2) (s, (j : Int) - 1)) (getS (sums ps2) (s, (j : Int) - 1)) hgw.1 hgw.1 w' hu hv
        rwa [beq_self_eq_true] at this
      repeat' (first | refine aw_seq ?_ | refine zz ?_ | refine zon fun _ => ?_ | refine zoa fun vr lr hr => ?_ | ((first | apply ao_call | apply aq_call); exact wants_a; (first | exact oc_func rfl | exact oc_clos rfl rfl | exact oc_bnd rfl rfl); (exact rfl); (first | exact fun w hw => hge w (hSu w (lies_of hw (l := lm) cut_a) (lies_of hw (l := l3) cut_a)).1 | exact fun w hw => hsv _ _ w (hw.oldr (by assumption) cut_a) ((hSu w (lies_of hw (l := lm) cut_a) (lies_of hw (l := l3) cut_a)).1.get _))) | (apply ao_callr; exact wants_a; (exact oc_func rfl); (exact rfl); (first | exact fun w hw => hsu w (lies_of hw (l := lg2) cut_a)); intro vr lr hr) | refine zoS (fun _ => ?_) (fun _ => ?_) | refine zqS (fun _ => ?_) (fun _ => ?_) | refine zwS (fun _ => ?_) (fun _ => ?_))
      exact lq_normal' ⟨j + 1, rfl, by omega, by rw [show ((j + 1 : Nat) : Int) - 1 = (j : Int) - 1 + 1 by omega], rfl⟩ (by omega) (by repeat (first | exact sub_nil | refine sub_cons rfl ?_)) hsub_a
    · repeat' (first | refine aw_seq ?_ | refine zz ?_ | refine zon fun _ => ?_ | refine zoa fun vr lr hr => ?_ | refine zoS (fun _ => ?_) (fun _ => ?_) | refine zqS (fun _ => ?_) (fun _ => ?_) | refine zwS (fun _ => ?_) (fun _ => ?_))
      exact lq_normal' (H' := l3 ++ (lg2 ++ (lm ++ []))) ⟨i + 1, ps2, r3, lg2, l3 ++ lm, rfl, by omega, hL2, hB2, fun w'' hl => (hSu w'' (hl.sub fun x hx => List.mem_append_right _ hx) (hl.sub fun x hx => List.mem_append_left _ hx)).1, rfl, by classical exact List.perm_iff_count.2 fun z => by simp only [List.count_append]; omega⟩ (by omega) (by repeat (first | exact sub_nil | refine sub_cons rfl ?_)) hsub_a
  · obtain rfl : i = l.length := by omega
    have hsc := fun w' (hl : Lies w' lg) => loscopes_ok hL w' hl
    repeat' (first | refine aw_seq ?_ | refine zz ?_ | refine zon fun _ => ?_ | refine zoa fun vr lr hr => ?_ | ((apply ao_callD; exact wants_a; (exact oc_func rfl); (exact rfl); (intro w hw; exact hsc w (lies_of hw (l := lg) cut_a)); rintro _ ls ⟨ss', a5, c5, hss, rfl, hat5⟩)) | refine zoS (fun _ => ?_) (fun _ => ?_) | refine zqS (fun _ => ?_) (fun _ => ?_) | refine zwS (fun _ => ?_) (fun _ => ?_))
    have hl2 : (scT ss).length = ss.length := List.length_map _
    have hls' : ss'.length = ss.length := by have := congrArg List.length hss; rwa [List.length_map, List.length_map] at this
    have hws' := wfP_of hss hws
    refine aw_forH (t0 := [(0, .slice a ss.length cp), (23, .slice a5 (scT ss).length c5), (24, I (0 : Nat))]) (H0 := ls ++ []) (fun q t H => ∃ i : Nat, q = ss.length - i ∧ i ≤ ss.length ∧ t = [(0, .slice a ss.length cp), (23, .slice a5 (scT ss).length c5), (24, I i)] ∧ H = ls ++ [])
      ⟨0, rfl, by omega, rfl, rfl⟩ (by repeat (first | exact sub_nil | refine sub_cons rfl ?_)) hsub_a ?_
    rintro q t H ⟨i, rfl, hi, rfl, rfl⟩
    by_cases hlt : i < ss.length
    · obtain ⟨⟨u, sc⟩, he⟩ := getP hlt
      obtain ⟨⟨u2, sc2⟩, he2⟩ := getP (show i < ss'.length by omega)
      have m1 := List.mem_of_getElem? he
      have m2 := List.mem_of_getElem? he2
      have ht : trms sc2 = trms sc := by
        have h1 : (scT ss')[i]? = some (trms sc2) := by rw [List.getElem?_map, he2]; rfl
        rw [hss, List.getElem?_map, he] at h1
        exact (Option.some.inj h1).symm
      obtain ⟨g, o1, rfl, hg, hc⟩ := hat i _ (i : Int) he rfl
      have cU : w.cell? ⟨g, o1 + (i : Int).toNat * 1, none⟩ = some u := hc 0 _ rfl
      have h5 := fun (w' : World) (hw : RepH ⟨w.heap.size, w, Tryz.f3.ntmps⟩ (ls ++ []) w') => hat5 w' (lies_of hw (l := ls) cut_a)
      refine aw_fact (φ := ∃ g o, a5 = some ⟨g, o, none⟩) (fun w' hw => by
        obtain ⟨a6, c6, e, hat6⟩ := OldRow.cells cellsSc_len (h5 w' hw).1
        simp only [Value.slice.injEq] at e
        obtain ⟨rfl, -, -⟩ := e
        obtain ⟨g, o, e, -⟩ := hat6 i _ (i : Int) he2 rfl
        exact ⟨g, o, e⟩) ?_
      rintro ⟨g5, o5, rfl⟩
      have cU2 := fun (w' : World) (hw : RepH ⟨w.heap.size, w, Tryz.f3.ntmps⟩ (ls ++ []) w') => show w'.cell? ⟨g5, o5 + (i : Int).toNat * 1, none⟩ = some u2 by
        obtain ⟨a6, c6, e, hat6⟩ := OldRow.cells cellsSc_len (h5 w' hw).1
        simp only [Value.slice.injEq] at e
        obtain ⟨rfl, -, -⟩ := e
        obtain ⟨g, o, e, -, hc⟩ := hat6 i _ (i : Int) he2 rfl
        cases e
        exact hc 0 _ rfl
      have hsm := fun w' h1 h2 => show Calls Tryz.prog 20 #[u2, u] w' fun e w'' => e = .returned (.bool true) ∧ Below w'.heap.size w' w'' by
        have := Scp.rsame_ok u2 u sc2 sc (hws' _ m2) (hws _ m1) w' h1 h2
        rwa [ht, beq_self_eq_true] at this
      repeat' (first | (apply ao_nilh; exact hsub_a) | apply ao_nil | apply aq_nil | apply ah_end | ((first | apply ao_val | apply aq_val | (apply ah_take; (exact rfl))); exact wants_a; (first | exact ov_load_w1 rfl cU2 | exact ov_a); (exact rfl)) | ((first | apply ao_skip | apply aq_skip | (apply ah_skip; (exact rfl))); exact nots_a; (exact rfl)) | (refine ao_is ?_; first | (apply ao_new; exact wants_a; exact on_a; (exact rfl); intro _) | (apply ao_store; exact wants_a; exact ow_a; exact upd_a) | (apply ao_valw; exact wants_a; exact ox_a; (exact rfl); exact upd_a) | (apply ao_skip0; exact nots_a) | (apply ao_append; exact wants_a; (exact rfl); assumption; (exact rfl); exact cut_a; exact has_a; (exact rfl); (exact rfl); omega; omega; omega; (exact rfl); intro vr lr hr)) | ((first | apply ao_call | apply aq_call); exact wants_a; (first | exact oc_func rfl | exact oc_clos rfl rfl | exact oc_bnd rfl rfl); (exact rfl); (first | exact fun w hw => hsm w ((h5 w hw).2 _ m2) ((hv.below hw.below).2 _ m1))) | (apply ah_one; (exact rfl)) | (apply ah_two; (exact rfl); (exact rfl)) | (apply ah_three; (exact rfl); (exact rfl); (exact rfl)) | (refine aw_is ?_; first | (apply aw_held (id := 34) (pl := (.t 0 (.t 1 (.t 2 (.t 3 (.t 4 (.t 5 (.t 6 (.t 7 (.o 8 (.t 9 .e))))))))))); (kernel_rfl); (kernel_rfl); (kernel_rfl); (solve | (exact List.Sublist.refl _))) | refine aw_seq ?_ | refine aw_block ?_ | refine aw_region ?_ | refine aw_skip ?_ | refine aw_exit ?_ | refine aw_ret ?_ | refine aw_label ?_ | refine aw_scope ?_ | refine aw_cond_t rfl (by with_reducible rfl) ?_ | refine aw_cond_f rfl (by with_reducible rfl) ?_ | refine aw_draw (by kernel_rfl) (by kernel_rfl) ?_) | (first | (refine ah_is ?_; (fail_if_success first | refine ah_glit (b := true) rfl rfl rfl (by with_reducible rfl) ?_ | refine ah_glit (b := false) rfl rfl rfl (by with_reducible rfl) ?_); apply ah_gt; (exact rfl); (exact rfl); (exact rfl); exact t_a) | ((refine ao_is ?_; (fail_if_success first | refine ao_glit (b := true) rfl rfl (by with_reducible rfl) ?_ | refine ao_glit (b := false) rfl rfl (by with_reducible rfl) ?_)); apply ao_gt; (exact rfl); (exact rfl); exact t_a) | ((refine aq_is ?_; (fail_if_success first | refine aq_glit (b := true) rfl rfl (by with_reducible rfl) ?_ | refine aq_glit (b := false) rfl rfl (by with_reducible rfl) ?_)); apply aq_gt; (exact rfl); (exact rfl); exact t_a) | (apply aw_ct; (exact rfl); exact t_a)) | (first | (refine ah_is ?_; (fail_if_success first | refine ah_glit (b := true) rfl rfl rfl (by with_reducible rfl) ?_ | refine ah_glit (b := false) rfl rfl rfl (by with_reducible rfl) ?_); apply ah_gf; (exact rfl); (exact rfl); (exact rfl); exact f_a) | ((refine ao_is ?_; (fail_if_success first | refine ao_glit (b := true) rfl rfl (by with_reducible rfl) ?_ | refine ao_glit (b := false) rfl rfl (by with_reducible rfl) ?_)); apply ao_gf; (exact rfl); (exact rfl); exact f_a) | ((refine aq_is ?_; (fail_if_success first | refine aq_glit (b := true) rfl rfl (by with_reducible rfl) ?_ | refine aq_glit (b := false) rfl rfl (by with_reducible rfl) ?_)); apply aq_gf; (exact rfl); (exact rfl); exact f_a) | (apply aw_cf; (exact rfl); exact f_a)) | refine at_normal ?_ | refine at_exit ?_ | refine at_ret ?_ | refine ib_normal ?_ | refine ib_exit ?_ | refine ib_other ?_ | refine ib_ret ?_ | refine lq_exit ?_ | refine lq_ret ?_ | refine ci_ret ?_ | refine ci_exit ?_ | refine r1_ret rfl ?_ | refine r1_normal rfl ?_ | refine r2_ret rfl rfl ?_ | refine r2_normal rfl rfl ?_ | refine r3_ret rfl rfl rfl ?_ | refine r3_normal rfl rfl rfl ?_ | refine ng_normal ?_ | refine ng_exit ?_ | refine ng_ret ?_ | (apply rt_ret; (exact rfl); (exact rfl); (exact rfl); exact has_a; exact has_a; (exact rfl); (exact rfl)) | (apply rc1_ret; (exact rfl); exact has_a; (exact rfl)) | (apply rc2_ret; (exact rfl); exact has_a; (exact rfl); (exact rfl)) | (refine ao_is ?_; (fail_if_success first | refine ao_glit (b := true) rfl rfl (by with_reducible rfl) ?_ | refine ao_glit (b := false) rfl rfl (by with_reducible rfl) ?_); refine ao_gbool rfl rfl (fun _ => ?_) (fun _ => ?_)) | (refine aq_is ?_; (fail_if_success first | refine aq_glit (b := true) rfl rfl (by with_reducible rfl) ?_ | refine aq_glit (b := false) rfl rfl (by with_reducible rfl) ?_); refine aq_gbool rfl rfl (fun _ => ?_) (fun _ => ?_)) | (refine aw_is ?_; refine aw_cond rfl (fun _ => ?_) (fun _ => ?_)))
      exact lq_normal' ⟨i + 1, rfl, by omega, rfl, rfl⟩ (by omega) (by repeat (first | exact sub_nil | refine sub_cons rfl ?_)) hsub_a
    · obtain rfl : i = ss.length := by omega
      repeat' (first | refine aw_seq ?_ | ((first | apply ao_val | apply aq_val); exact wants_a; (first | exact ov_lenr rfl (by assumption) | exact ov_a); (exact rfl)) | refine zy ?_ | refine zon fun _ => ?_ | refine zoa fun vr lr hr => ?_ | ((first | apply ao_call | apply aq_call); exact wants_a; (first | exact oc_func rfl | exact oc_clos rfl rfl | exact oc_bnd rfl rfl); (exact rfl); (first | exact fun w hw => alive_ok w | exact fun w hw => loapply0_ok w | exact fun w hw => loload0_ok w)) | (apply ao_callr; exact wants_a; (exact oc_func rfl); (exact rfl); (first | exact fun w hw => losum0_ok _ _ w | exact fun w hw => lospaces0_ok w | exact fun w hw => loscopes0_ok w); intro vr lr hr) | refine zoS (fun _ => ?_) (fun _ => ?_) | refine zqS (fun _ => ?_) (fun _ => ?_) | refine zwS (fun _ => ?_) (fun _ => ?_))
      exact fun w' hw => ⟨rfl, hw.below⟩
end Lct
end Go.Proofs.YtdakeicfhbggeaaGreat
