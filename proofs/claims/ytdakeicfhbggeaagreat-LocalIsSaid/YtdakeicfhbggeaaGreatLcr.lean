/- LocalIs, walked: told all deltas of a cache, the sums are those of its objects; conditions: none. -/
import Derived.Test.YtdakeicfhbggeaaGreatLch
import Derived.Test.YtdakeicfhbggeaaGreatLcg
import Derived.Test.YtdakeicfhbggeaaGreatLcp
import Derived.Test.YtdakeicfhbggeaaGreatLcy
import Derived.Test.YtdakeicfhbggeaaGreatScpy
import Derived.Test.YtdakeicfhbggeaaGreatChy
import Derived.Test.YtdakeicfhbggeaaGreatCdm
namespace Go.Proofs.YtdakeicfhbggeaaGreat
namespace Lct
open Go Go.RowKit Sx Vec Ojt Scp
attribute [local irreducible] Go.Calls
theorem del_parts {E : Env} {H R l0 ls : Hp} {w : World} {v : Value} {ps : List Chm.PD} (h : RepH E H w) (h3 : RowB 82 21 v l0 ps.length (ps.flatMap Chm.cellsD)) (h4 : Parts Chm.KD ls ps) (hc : Cut H (l0 ++ ls) R) : DelAt w v ps := by
  refine ⟨h.oldr h3 hc.fst, fun d hd => ?_⟩
  obtain ⟨l, R', hc2, l1, l2, rfl, k1, k2⟩ := h4.at hd
  have hc3 := hc.snd.trans hc2
  exact ⟨h.oldr k1 hc3.fst, h.oldr k2 hc3.snd⟩
def spE (es : List Chm.PE) : List Tx := es.flatMap fun e => e.p.2.s :: e.qs.map fun q => q.2.s
theorem spE_len : ∀ {es : List Chm.PE}, (∀ e ∈ es, e.qs.length ≤ 60) → (spE es).length ≤ 61 * es.length
  | [], _ => Nat.le_refl _
  | e :: es, h => by
    have h1 := spE_len (es := es) fun x hx => h x (List.mem_cons_of_mem _ hx)
    have h2 := h e List.mem_cons_self
    unfold spE at h1 ⊢
    rw [List.flatMap_cons, List.length_append, List.length_cons, List.length_map, List.length_cons]
    omega
set_option maxHeartbeats 128000000 in
set_option maxRecDepth 20000 in
theorem is_ok (v0 v1 : Value) (ss : List Sc) (es : List Chm.PE) (hn : ∀ e ∈ es, Chm.numE e) (w : World) (hv : ScsAt w v0 ss) (hu : Chm.EvsAt w v1 es) :
    Calls Tryz.prog 5 #[v0, v1] w fun e w' => e = .returned (.bool true) ∧ Below w.heap.size w w' := by
  obtain ⟨a, cp, rfl, hat⟩ := OldRow.cells cellsSc_len hv.1
  obtain ⟨b, cq, rfl, hbt⟩ := OldRow.cells Chm.cellsE_len hu.1
  have hfit := fun w' (hb : Below w.heap.size w w') => fits13_ok _ ss w' (hv.below hb)
  have hfit2 := fun w' (hb : Below w.heap.size w w') => Chm.fits8_ok _ es w' (hu.below hb)
  refine calls1 (args := [.slice a ss.length cp, .slice b es.length cq]) Tryz.func5 rfl rfl rfl rfl ?_
  cases hq : fitSc ss
  · rw [hq] at hfit
    generalize Chm.fitEs es = z2 at hfit2
    repeat' (first | refine aw_seq ?_ | refine zz ?_ | refine zon fun _ => ?_ | refine zoa fun vr lr hr => ?_ | ((first | apply ao_call | apply aq_call); exact wants_a; (first | exact oc_func rfl | exact oc_clos rfl rfl | exact oc_bnd rfl rfl); (exact rfl); (first | exact fun w hw => hfit w hw.below | exact fun w hw => hfit2 w hw.below | exact fun w hw => alive_ok w)) | refine zoS (fun _ => ?_) (fun _ => ?_) | refine zqS (fun _ => ?_) (fun _ => ?_) | refine zwS (fun _ => ?_) (fun _ => ?_))
    all_goals exact fun w' hw => ⟨rfl, hw.below⟩
  cases hq2 : Chm.fitEs es
  · rw [hq] at hfit
    rw [hq2] at hfit2
    repeat' (first | refine aw_seq ?_ | refine zz ?_ | refine zon fun _ => ?_ | refine zoa fun vr lr hr => ?_ | ((first | apply ao_call | apply aq_call); exact wants_a; (first | exact oc_func rfl | exact oc_clos rfl rfl | exact oc_bnd rfl rfl); (exact rfl); (first | exact fun w hw => hfit w hw.below | exact fun w hw => hfit2 w hw.below | exact fun w hw => alive_ok w)) | refine zoS (fun _ => ?_) (fun _ => ?_) | refine zqS (fun _ => ?_) (fun _ => ?_) | refine zwS (fun _ => ?_) (fun _ => ?_))
    all_goals exact fun w' hw => ⟨rfl, hw.below⟩
  rw [hq] at hfit
  rw [hq2] at hfit2
  obtain ⟨hsl, hws⟩ := fitSc_wf hq
  obtain ⟨hel, hwe⟩ := Chm.fitEs_wf hq2 hn
  cases hr : rightScs (scT ss)
  · have hnew := fun w' (hb : Below w.heap.size w w') => lonew_f (hv.below hb) hws hsl hr
    repeat' (first | refine aw_seq ?_ | ((first | apply ao_val | apply aq_val); exact wants_a; (first | exact ov_peq0 rfl rfl | exact ov_a); (exact rfl)) | refine zy ?_ | refine zon fun _ => ?_ | refine zoa fun vr lr hr => ?_ | ((first | apply ao_call | apply aq_call); exact wants_a; (first | exact oc_func rfl | exact oc_clos rfl rfl | exact oc_bnd rfl rfl); (exact rfl); (first | exact fun w hw => hfit w hw.below | exact fun w hw => hfit2 w hw.below | exact fun w hw => alive_ok w | exact fun w hw => hnew w hw.below)) | refine zoS (fun _ => ?_) (fun _ => ?_) | refine zqS (fun _ => ?_) (fun _ => ?_) | refine zwS (fun _ => ?_) (fun _ => ?_))
    exact fun w' hw => ⟨rfl, hw.below⟩
  have hnew := fun w' (hb : Below w.heap.size w w') => lonew_t (hv.below hb) hws hsl hr
  have hnew2 := hnew
  have h8 : ss.length ≤ 8 := by
    unfold rightScs at hr
    rw [Bool.and_eq_true, decide_eq_true_eq, List.length_map] at hr
    exact hr.2
  have hscl : (scT ss).length ≤ 8 := by rw [List.length_map]; exact h8
  repeat' (first | refine aw_seq ?_ | refine zz ?_ | refine zon fun _ => ?_ | refine zoa fun vr lr hr => ?_ | ((first | apply ao_call | apply aq_call); exact wants_a; (first | exact oc_func rfl | exact oc_clos rfl rfl | exact oc_bnd rfl rfl); (exact rfl); (first | exact fun w hw => hfit w hw.below | exact fun w hw => hfit2 w hw.below)) | ((apply ao_callD; exact wants_a; (exact oc_func rfl); (exact rfl); (intro w hw; exact hnew w hw.below); intro vr lx hr; obtain ⟨gx, hvr, hLx⟩ := hr; subst hvr; clear hnew)) | refine zoS (fun _ => ?_) (fun _ => ?_) | refine zqS (fun _ => ?_) (fun _ => ?_) | refine zwS (fun _ => ?_) (fun _ => ?_))
  repeat' (first | refine aw_seq ?_ | refine zz ?_ | refine zon fun _ => ?_ | refine zoa fun vr lr hr => ?_ | ((apply ao_callD; exact wants_a; (exact oc_func rfl); (exact rfl); (intro w hw; exact hnew2 w hw.below); intro vr ly hr; obtain ⟨gy, hvr, hLy⟩ := hr; subst hvr; clear hnew2)) | ((apply ao_callD; exact wants_a; (exact oc_func rfl); (exact rfl); (intro w hw; exact Chm.pnew_ok w); intro vr lc hr; obtain ⟨gc, hvr, hLc⟩ := hr; subst hvr)) | refine zoS (fun _ => ?_) (fun _ => ?_) | refine zqS (fun _ => ?_) (fun _ => ?_) | refine zwS (fun _ => ?_) (fun _ => ?_))
  clear hfit hfit2
  have hse : ∀ e ∈ es, InS (spE es) e.p.2 ∧ ∀ q ∈ Evt.obs e.qs, InS (spE es) q := fun e he => by
    obtain ⟨q1, q2, q3⟩ := hwe e he
    refine ⟨⟨q1.wfO, List.mem_flatMap.2 ⟨e, he, List.mem_cons_self⟩⟩, fun q hq => ?_⟩
    obtain ⟨p, hp, rfl⟩ := List.mem_map.1 hq
    exact ⟨(q2.2 p hp).wfO, List.mem_flatMap.2 ⟨e, he, List.mem_cons_of_mem _ (List.mem_map.2 ⟨p, hp, rfl⟩)⟩⟩
  have hspl : (spE es).length ≤ 5000 := by
    have := spE_len fun e he => (hwe e he).2.2
    omega
  have hspn : ∀ s ∈ spE es, s.length ≤ 100000 := fun s hs => by
    obtain ⟨e, he, hs⟩ := List.mem_flatMap.1 hs
    obtain ⟨q1, q2, q3⟩ := hwe e he
    rcases List.mem_cons.1 hs with rfl | hs
    · exact q1.wfO.2.1
    · obtain ⟨q, hq, rfl⟩ := List.mem_map.1 hs
      exact (q2.2 q hq).wfO.2.1
  generalize spE es = sp at hse hspl hspn
  refine aw_for (t0 := [(0, .slice a ss.length cp), (1, .slice b es.length cq), (7, .pointer (some ⟨gx, 0, none⟩)), (9, .pointer (some ⟨gy, 0, none⟩)), (11, .pointer (some ⟨gc, 0, none⟩)), (12, I (0 : Nat))]) (fun q t H => ∃ (i : Nat) (L : List Su) (st : Chm.St) (lx lc : Hp), q = es.length - i ∧ i ≤ es.length ∧ LLo (scT ss) L gx lx ∧ Chm.LCh st gc lc ∧ Chm.FitSt st ∧ st.gs.length ≤ i ∧ BndC i st ∧ (∀ o ∈ st.os, InS sp o) ∧ SemS sp L (fun b n => cnt (scT ss) b n st.os) ∧
      t = [(0, .slice a ss.length cp), (1, .slice b es.length cq), (7, .pointer (some ⟨gx, 0, none⟩)), (9, .pointer (some ⟨gy, 0, none⟩)), (11, .pointer (some ⟨gc, 0, none⟩)), (12, I i)] ∧ H.Perm (lx ++ (lc ++ (ly ++ []))))
    ⟨0, [], .new, lx, lc, rfl, by omega, hLx, hLc, Chm.fit_new, Nat.le_refl _, BndC.new, (fun o h => by cases h), ⟨fun _ => rfl, fun _ _ => rfl, List.nodup_nil, fun e h => by cases h⟩, rfl, by classical exact List.perm_iff_count.2 fun z => by simp only [List.count_append]; omega⟩ (by repeat (first | exact sub_nil | refine sub_cons rfl ?_)) ?_
  clear hLx hLc
  rintro q t H ⟨i, L, st, lx, lc, rfl, hi, hLx, hLc, hF, hg, hB, hos, hS, rfl, hp⟩
  refine aw_permH hp ?_
  clear hp
  by_cases hlt : i < es.length
  · obtain ⟨e, he⟩ := getP hlt
    have hme := List.mem_of_getElem? he
    obtain ⟨q1, q2, q3⟩ := hwe e hme
    obtain ⟨r1, r2⟩ := hse e hme
    obtain ⟨ho1, ho2⟩ := hu.2 e hme
    obtain ⟨ga, o1, rfl, hg2, hc⟩ := hbt i _ (i : Int) he rfl
    obtain ⟨kind, ⟨xv, o⟩, ver, va, qs⟩ := e
    simp only at q1 q2 q3 r1 r2 ho1 ho2
    obtain ⟨xa, xc, rfl⟩ := ho1.len
    obtain ⟨aa, ac, rfl⟩ := ho2.1.len
    have cA : ∀ (j : Nat) z, [I kind, S o.k, S o.s, S o.n, I o.ver, S o.c, .bool o.tm, .bool o.bs, .slice xa o.rs.length xc, I ver, .slice aa qs.length ac][j]? = some z → w.cell? ⟨ga, o1 + (i : Int).toNat * 11 + j, none⟩ = some z := hc
    have hpa := fun m R => Chm.papply_ok (m := m) (w0 := w) hLc hF kind (.slice xa o.rs.length xc, o) ver (.slice aa qs.length ac) qs q1 q2 (by omega) ho1 ho2 R
    have hql : (Evt.obs qs).length ≤ 60 := by rw [List.length_map]; exact q3
    have hev := fun (ps : List Chm.PD) (hps : ps.map Chm.deD = (Chm.apO st kind o ver (Evt.obs qs)).2.1) => ev_sem hscl hspl hspn hF.fine hB (by omega) hos hql r1 r2 hS hps
    have hF2 := Chm.fit_ap (kind := kind) (o := o) (ver := ver) (qs := Evt.obs qs) hF (by omega) q1 (by omega) fun q hq => by
      obtain ⟨p, hp, rfl⟩ := List.mem_map.1 hq
      exact q2.2 p hp
    have hB2 := hB.next hF.fine (kind := kind) (o := o) (ver := ver) hql
    simp only at hpa
    generalize Chm.apO st kind o ver (Evt.obs qs) = X at hpa hev hF2 hB2
    obtain ⟨er, ds, st2⟩ := X
    simp only at hpa hev hF2 hB2
    repeat' (first | refine aw_seq ?_ | ((first | apply ao_val | apply aq_val); exact wants_a; (first | exact ov_load_oa rfl hg2 cA rfl | exact ov_a); (exact rfl)) | refine zy ?_ | refine zon fun _ => ?_ | refine zoa fun vr lr hr => ?_ | ((apply ao_callH (l := lc); exact wants_a; (exact oc_func rfl); (exact rfl); (exact cut_a); (exact hpa _ _); rintro _ _ ⟨rd, ld, lc2, rfl, rfl, hLc2, ps, l0, ls, hps, rfl, hrow, hpt⟩)) | refine zoS (fun _ => ?_) (fun _ => ?_) | refine zqS (fun _ => ?_) (fun _ => ?_) | refine zwS (fun _ => ?_) (fun _ => ?_))
    obtain ⟨L2, e1, hS2, hsm, hwd, hos2, hpl⟩ := hev ps hps
    have hap := fun m R hd => loapply_ok (m := m) (w0 := w) (vd := rd) hLx hscl (by omega) hwd hsm R hd
    rw [e1] at hap
    unfold ADid at hap
    simp only at hap
    repeat' (first | refine aw_seq ?_ | refine zz ?_ | refine zon fun _ => ?_ | refine zoa fun vr lr hr => ?_ | ((apply ao_callH (l := lx); exact wants_a; (exact oc_func rfl); (exact rfl); (exact cut_a); (exact hap _ _ (fun n w' hw => del_parts hw hrow hpt cut_a)); rintro _ _ ⟨r5, lr5, lx2, rfl, rfl, hr5, hLx2⟩)) | refine zoS (fun _ => ?_) (fun _ => ?_) | refine zqS (fun _ => ?_) (fun _ => ?_) | refine zwS (fun _ => ?_) (fun _ => ?_))
    exact lq_normal' (H' := lx2 ++ (lc2 ++ (ly ++ []))) ⟨i + 1, L2, st2, lx2, lc2, rfl, by omega, hLx2, hLc2, hF2.1, by have := hF2.2; omega, hB2, hos2, hS2, rfl, List.Perm.refl _⟩ (by omega) (by repeat (first | exact sub_nil | refine sub_cons rfl ?_)) hsub_a
  obtain rfl : i = es.length := by omega
  clear hlt hi hbt hu hn hwe hse
  have hpo := fun w' (hl : Lies w' lc) => show Calls Tryz.prog 27 #[.pointer (some ⟨gc, 0, none⟩)] w' fun e w2 => ∃ r, e = .returned r ∧ NewD (Evt.DObjs st.os) w' w2 r by
    obtain ⟨mo, mg, X, co, G, cg, hC, -⟩ := Chm.cAt_lies hLc hl
    exact Chm.objects_ok hC hF.fine hF.wf hF.os
  repeat' (first | refine aw_seq ?_ | refine zz ?_ | refine zon fun _ => ?_ | refine zoa fun vr lr hr => ?_ | ((apply ao_callD; exact wants_a; (exact oc_func rfl); (exact rfl); (intro w hw; exact hpo w (lies_of hw (l := lc) cut_a)); rintro va _ ⟨ps, l0, ls, hobs, rfl, hrow, hpt⟩)) | refine zoS (fun _ => ?_) (fun _ => ?_) | refine zqS (fun _ => ?_) (fun _ => ?_) | refine zwS (fun _ => ?_) (fun _ => ?_))
  have hol := hB.os
  have hpl : ps.length ≤ 1000 := by have h1 := congrArg List.length hobs; rw [List.length_map] at h1; omega
  have hN := names_len (os := st.os) fun o h => (hos o h).1
  have hgood := good_of (sp := sp) (os := st.os) (ps := st.os) (fun _ h => h) (fun o h => (hos o h).1) hF.fine.os.2 fun o h => (hos o h).2
  have hNl : (namesO st.os).length ≤ 17000 := by omega
  generalize namesO st.os = Ns at hgood hNl
  clear hN
  have hFx := (BaseF.zero (Ns := Ns)).few (scT ss) hgood (by omega) (g := fun b n => cnt (scT ss) b n st.os) fun b n => by omega
  have hsmx := hS.small hFx hNl hspl hspn
  obtain ⟨L2, e1, hS2, hsm2⟩ := load_sem hscl hNl hspl hspn st.os [] (fun _ _ => 0) 0 hgood BaseF.zero (by omega) ⟨fun _ => rfl, fun _ _ => rfl, List.nodup_nil, fun e h => by cases h⟩
  have hS2 : SemS sp L2 (fun b n => cnt (scT ss) b n st.os) := hS2.congr fun b n => by omega
  have hsmy := hS2.small hFx hNl hspl hspn
  have hwo : ∀ p ∈ ps, wfO p.2 := fun p hp => (hos p.2 (by rw [← hobs]; exact List.mem_map.2 ⟨p, hp, rfl⟩)).1
  have hld := fun m R ho => loload_ok (m := m) (w0 := w) (v := va) (os := ps) hLy hscl (by omega) hwo (by rw [hobs]; exact hsm2) R ho
  have hlS : loadS (scT ss) st.os = (L2, 0) := by
    unfold loadS
    rw [if_pos (List.all_eq_true.2 hF.fine.os.2)]
    exact e1
  unfold LoadD at hld
  rw [hobs, hlS] at hld
  simp only [if_pos] at hld
  repeat' (first | refine aw_seq ?_ | refine zz ?_ | refine zon fun _ => ?_ | refine zoa fun vr lr hr => ?_ | ((apply ao_callH (l := ly); exact wants_a; (exact oc_func rfl); (exact rfl); (exact cut_a); (exact hld _ _ (fun n w' hw => Evt.objs_at hw hrow hpt cut_a)); rintro _ _ ⟨rfl, ly2, rfl, hLy2⟩)) | refine zoS (fun _ => ?_) (fun _ => ?_) | refine zqS (fun _ => ?_) (fun _ => ?_) | refine zwS (fun _ => ?_) (fun _ => ?_))
  clear hld hpo hLc hLy hB hF hsm2 e1 hlS
  obtain ⟨av, cv, hva⟩ := hrow.len
  subst hva
  refine aw_forH (t0 := [(0, .slice a ss.length cp), (7, .pointer (some ⟨gx, 0, none⟩)), (9, .pointer (some ⟨gy, 0, none⟩)), (17, .slice av ps.length cv), (18, I (0 : Nat))]) (H0 := ly2 ++ ((l0 ++ ls) ++ (lx ++ []))) (fun q t H => ∃ i : Nat, q = ps.length - i ∧ i ≤ ps.length ∧ t = [(0, .slice a ss.length cp), (7, .pointer (some ⟨gx, 0, none⟩)), (9, .pointer (some ⟨gy, 0, none⟩)), (17, .slice av ps.length cv), (18, I i)] ∧ H = ly2 ++ ((l0 ++ ls) ++ (lx ++ [])))
    ⟨0, rfl, by omega, rfl, rfl⟩ (by repeat (first | exact sub_nil | refine sub_cons rfl ?_)) hsub_a ?_
  rintro q t H ⟨i, rfl, hi, rfl, rfl⟩
  by_cases hlt : i < ps.length
  · obtain ⟨⟨ui, oi⟩, hei⟩ := getP hlt
    obtain ⟨g5, cap5, cs5, hv5, rfl, hcell⟩ := hrow.cells_all Evt.cellsO_len (by omega)
    simp only [Value.slice.injEq] at hv5
    obtain ⟨rfl, -, rfl⟩ := hv5
    have cI : cs5[0 + (i : Int).toNat * 8 + 0 + 1]? = some (S oi.s) := hcell i _ _ 1 _ hei rfl rfl
    repeat' (first | refine aw_seq ?_ | refine zz ?_ | refine zon fun _ => ?_ | refine zoa fun vr lr hr => ?_ | refine zoS (fun _ => ?_) (fun _ => ?_) | refine zqS (fun _ => ?_) (fun _ => ?_) | refine zwS (fun _ => ?_) (fun _ => ?_))
    refine aw_for (t0 := [(0, .slice a ss.length cp), (7, .pointer (some ⟨gx, 0, none⟩)), (9, .pointer (some ⟨gy, 0, none⟩)), (17, .slice (some ⟨g5, 0, none⟩) ps.length cv), (18, I i), (19, I (0 : Nat))]) (fun q t H => ∃ k : Nat, q = ss.length - k ∧ k ≤ ss.length ∧ t = [(0, .slice a ss.length cp), (7, .pointer (some ⟨gx, 0, none⟩)), (9, .pointer (some ⟨gy, 0, none⟩)), (17, .slice (some ⟨g5, 0, none⟩) ps.length cv), (18, I i), (19, I k)] ∧ H = ly2 ++ (([(g5, .cells cs5.toArray 61 (0, 0))] ++ ls) ++ (lx ++ [])))
      ⟨0, rfl, by omega, rfl, rfl⟩ (by repeat (first | exact sub_nil | refine sub_cons rfl ?_)) ?_
    rintro q t H ⟨k, rfl, hk, rfl, rfl⟩
    by_cases hkl : k < ss.length
    · obtain ⟨⟨uk, sck⟩, hek⟩ := getP hkl
      have mk1 := List.mem_of_getElem? hek
      obtain ⟨gk, ok, rfl, hgk, hck⟩ := hat k _ (k : Int) hek rfl
      have cU : w.cell? ⟨gk, ok + (k : Int).toNat * 1, none⟩ = some uk := hck 0 _ rfl
      have hsk : (scT ss)[((k : Int)).toNat]? = some (trms sck) := by rw [Int.toNat_natCast, List.getElem?_map, hek]; rfl
      repeat' (first | refine aw_seq ?_ | refine zz ?_ | refine zon fun _ => ?_ | refine zoa fun vr lr hr => ?_ | refine zoS (fun _ => ?_) (fun _ => ?_) | refine zqS (fun _ => ?_) (fun _ => ?_) | refine zwS (fun _ => ?_) (fun _ => ?_))
      refine aw_for (t0 := [(0, .slice (some ⟨gk, ok, none⟩) ss.length cp), (7, .pointer (some ⟨gx, 0, none⟩)), (9, .pointer (some ⟨gy, 0, none⟩)), (17, .slice (some ⟨g5, 0, none⟩) ps.length cv), (18, I i), (19, I k), (20, .slice none 0 0), (21, I (0 : Nat))]) (fun q t H => ∃ (n : Nat) (v : List Ent) (vs : Value) (lv : Hp), q = ps.length - n ∧ n ≤ ps.length ∧ PartV (scT ss) (oi.s, (k : Int)) (Evt.obs (ps.take n)) v ∧ RowB 112 3 vs lv v.length (vcells v) ∧
          t = [(0, .slice (some ⟨gk, ok, none⟩) ss.length cp), (7, .pointer (some ⟨gx, 0, none⟩)), (9, .pointer (some ⟨gy, 0, none⟩)), (17, .slice (some ⟨g5, 0, none⟩) ps.length cv), (18, I i), (19, I k), (20, vs), (21, I n)] ∧ H = lv ++ (ly2 ++ (([(g5, .cells cs5.toArray 61 (0, 0))] ++ ls) ++ (lx ++ []))))
        ⟨0, [], _, [], rfl, by omega, PartV.nil, RowB.nil, rfl, rfl⟩ (by repeat (first | exact sub_nil | refine sub_cons rfl ?_)) ?_
      rintro q t H ⟨n, v, vs, lv, rfl, hnn, hP, hrv, rfl, rfl⟩
      have hgt : ∀ o ∈ Evt.obs (ps.take n), GoodO sp Ns o := fun o ho => by
        obtain ⟨p, hp, rfl⟩ := List.mem_map.1 ho
        exact hgood _ (by rw [← hobs]; exact List.mem_map.2 ⟨p, List.mem_of_mem_take hp, rfl⟩)
      have htl : (Evt.obs (ps.take n)).length ≤ 1000 := by rw [List.length_map]; have := List.length_take_le n ps; omega
      by_cases hnl : n < ps.length
      · obtain ⟨⟨un, on⟩, hen⟩ := getP hnl
        have mn := List.mem_of_getElem? hen
        have hgn : GoodO sp Ns on := hgood _ (by rw [← hobs]; exact List.mem_map.2 ⟨_, mn, rfl⟩)
        have htk : Evt.obs (ps.take (n + 1)) = Evt.obs (ps.take n) ++ [on] := by rw [List.take_add_one, hen]; simp [Evt.obs]
        have hres := fun {H2 R2 : Hp} (w' : World) (hw : RepH ⟨w.heap.size, w, Tryz.f5.ntmps⟩ H2 w') (hc : Cut H2 ([(g5, .cells cs5.toArray 61 (0, 0))] ++ ls) R2) => (Evt.objs_at hw hrow hpt hc).2 _ mn
        have hmt := fun w' (hb : Below w.heap.size w w') => Scp.pmatch_ok uk sck on.k on.s on.n on.ver on.c on.tm on.bs un (hws _ mk1) w' ((hv.below hb).2 _ mk1)
        have hch := fun w' hv => charge_ok on un hgn.wf w' hv
        have cN : cs5[0 + (n : Int).toNat * 8 + 0 + 1]? = some (S on.s) := hcell n _ _ 1 _ hen rfl rfl
        have cO : sl (0 + (n : Int).toNat * 8) 8 cs5 = some [S on.k, S on.s, S on.n, I on.ver, S on.c, .bool on.tm, .bool on.bs, un] := sl_of (vs := [S on.k, S on.s, S on.n, I on.ver, S on.c, .bool on.tm, .bool on.bs, un]) (.inl (Nat.succ_pos _)) fun j z hj => hcell n _ _ j z hen rfl hj
        by_cases hse : on.s = oi.s
        · have es1 : (on.s == oi.s) = true := beq_iff_eq.2 hse
          cases hm : matchS (trms sck) on.c on.tm on.bs
          · rw [hm] at hmt
            have hin : inB (scT ss) (oi.s, (k : Int)) on = false := by
              cases h : inB (scT ss) (oi.s, (k : Int)) on
              · rfl
              · obtain ⟨-, -, sc2, h3, h4⟩ := inB_iff.1 h
                simp only at h3
                rw [hsk] at h3
                cases h3
                rw [hm] at h4
                cases h4
            repeat' (first | (apply ao_nilh; exact hsub_a) | apply ao_nil | apply aq_nil | apply ah_end | ((first | apply ao_val | apply aq_val | (apply ah_take; (exact rfl))); exact wants_a; exact ov_a; (exact rfl)) | ((first | apply ao_skip | apply aq_skip | (apply ah_skip; (exact rfl))); exact nots_a; (exact rfl)) | (refine ao_is ?_; first | (apply ao_new; exact wants_a; exact on_a; (exact rfl); intro _) | (apply ao_store; exact wants_a; exact ow_a; exact upd_a) | (apply ao_valw; exact wants_a; exact ox_a; (exact rfl); exact upd_a) | (apply ao_skip0; exact nots_a) | (apply ao_append; exact wants_a; (exact rfl); assumption; (exact rfl); exact cut_a; exact has_a; (exact rfl); (exact rfl); omega; omega; omega; (exact rfl); intro vr lr hr)) | ((first | apply ao_call | apply aq_call); exact wants_a; (first | exact oc_func rfl | exact oc_clos rfl rfl | exact oc_bnd rfl rfl); (exact rfl); (first | exact fun w hw => hmt w hw.below)) | (apply ah_one; (exact rfl)) | (apply ah_two; (exact rfl); (exact rfl)) | (apply ah_three; (exact rfl); (exact rfl); (exact rfl)) | (refine aw_is ?_; first | (apply aw_held (id := 30) (pl := (.t 0 (.t 1 (.t 2 (.t 3 (.t 4 (.t 5 (.t 6 (.t 7 (.t 8 (.t 9 (.t 10 (.t 11 (.t 12 (.t 13 (.t 14 (.t 15 (.t 16 (.t 17 (.t 18 (.t 19 (.t 20 (.t 21 (.o 22 (.t 23 .e))))))))))))))))))))))))); (kernel_rfl); (kernel_rfl); (kernel_rfl); (solve | (exact List.Sublist.refl _))) | refine aw_seq ?_ | refine aw_block ?_ | refine aw_region ?_ | refine aw_skip ?_ | refine aw_exit ?_ | refine aw_ret ?_ | refine aw_label ?_ | refine aw_scope ?_ | refine aw_cond_t rfl (by with_reducible rfl) ?_ | refine aw_cond_f rfl (by with_reducible rfl) ?_ | refine aw_draw (by kernel_rfl) (by kernel_rfl) ?_) | (first | (refine ah_is ?_; (fail_if_success first | refine ah_glit (b := true) rfl rfl rfl (by with_reducible rfl) ?_ | refine ah_glit (b := false) rfl rfl rfl (by with_reducible rfl) ?_); apply ah_gt; (exact rfl); (exact rfl); (exact rfl); exact t_a) | ((refine ao_is ?_; (fail_if_success first | refine ao_glit (b := true) rfl rfl (by with_reducible rfl) ?_ | refine ao_glit (b := false) rfl rfl (by with_reducible rfl) ?_)); apply ao_gt; (exact rfl); (exact rfl); exact t_a) | ((refine aq_is ?_; (fail_if_success first | refine aq_glit (b := true) rfl rfl (by with_reducible rfl) ?_ | refine aq_glit (b := false) rfl rfl (by with_reducible rfl) ?_)); apply aq_gt; (exact rfl); (exact rfl); exact t_a) | (apply aw_ct; (exact rfl); exact t_a)) | (first | (refine ah_is ?_; (fail_if_success first | refine ah_glit (b := true) rfl rfl rfl (by with_reducible rfl) ?_ | refine ah_glit (b := false) rfl rfl rfl (by with_reducible rfl) ?_); apply ah_gf; (exact rfl); (exact rfl); (exact rfl); exact f_a) | ((refine ao_is ?_; (fail_if_success first | refine ao_glit (b := true) rfl rfl (by with_reducible rfl) ?_ | refine ao_glit (b := false) rfl rfl (by with_reducible rfl) ?_)); apply ao_gf; (exact rfl); (exact rfl); exact f_a) | ((refine aq_is ?_; (fail_if_success first | refine aq_glit (b := true) rfl rfl (by with_reducible rfl) ?_ | refine aq_glit (b := false) rfl rfl (by with_reducible rfl) ?_)); apply aq_gf; (exact rfl); (exact rfl); exact f_a) | (apply aw_cf; (exact rfl); exact f_a)) | refine at_normal ?_ | refine at_exit ?_ | refine at_ret ?_ | refine ib_normal ?_ | refine ib_exit ?_ | refine ib_other ?_ | refine ib_ret ?_ | refine lq_exit ?_ | refine lq_ret ?_ | refine ci_ret ?_ | refine ci_exit ?_ | refine r1_ret rfl ?_ | refine r1_normal rfl ?_ | refine r2_ret rfl rfl ?_ | refine r2_normal rfl rfl ?_ | refine r3_ret rfl rfl rfl ?_ | refine r3_normal rfl rfl rfl ?_ | refine ng_normal ?_ | refine ng_exit ?_ | refine ng_ret ?_ | (apply rt_ret; (exact rfl); (exact rfl); (exact rfl); exact has_a; exact has_a; (exact rfl); (exact rfl)) | (apply rc1_ret; (exact rfl); exact has_a; (exact rfl)) | (apply rc2_ret; (exact rfl); exact has_a; (exact rfl); (exact rfl)) | (refine ao_is ?_; (fail_if_success first | refine ao_glit (b := true) rfl rfl (by with_reducible rfl) ?_ | refine ao_glit (b := false) rfl rfl (by with_reducible rfl) ?_); refine ao_gbool rfl rfl (fun _ => ?_) (fun _ => ?_)) | (refine aq_is ?_; (fail_if_success first | refine aq_glit (b := true) rfl rfl (by with_reducible rfl) ?_ | refine aq_glit (b := false) rfl rfl (by with_reducible rfl) ?_); refine aq_gbool rfl rfl (fun _ => ?_) (fun _ => ?_)) | (refine aw_is ?_; refine aw_cond rfl (fun _ => ?_) (fun _ => ?_)))
            exact lq_normal' ⟨n + 1, v, vs, lv, rfl, by omega, by rw [htk]; exact hP.skip hin, hrv, rfl, rfl⟩ (by omega) (by repeat (first | exact sub_nil | refine sub_cons rfl ?_)) hsub_a
          · rw [hm] at hmt
            have hin : inB (scT ss) (oi.s, (k : Int)) on = true := inB_iff.2 ⟨hse, Int.natCast_nonneg k, trms sck, hsk, hm⟩
            obtain ⟨v2, ev, hP2⟩ := hP.add hgt hgn (by omega) hNl hin
            obtain ⟨c1, c2, c3, c4, -⟩ := charge_r hgn.wf hgn.rt
            obtain ⟨wv, wl⟩ := hP.wf hgt (by omega) hNl
            rw [c1] at hch
            have hadd := fun u w' h1 h2 => padd_ok vs u v (chargeO on).1 wv c3 (by omega) (by omega) w' h1 h2
            rw [ev] at hadd
            generalize (chargeO on).1 = cg at hch hadd
            repeat' (first | (apply ao_nilh; exact hsub_a) | apply ao_nil | apply aq_nil | apply ah_end | ((first | apply ao_val | apply aq_val | (apply ah_take; (exact rfl))); exact wants_a; exact ov_a; (exact rfl)) | ((first | apply ao_skip | apply aq_skip | (apply ah_skip; (exact rfl))); exact nots_a; (exact rfl)) | (refine ao_is ?_; first | (apply ao_new; exact wants_a; exact on_a; (exact rfl); intro _) | (apply ao_store; exact wants_a; exact ow_a; exact upd_a) | (apply ao_valw; exact wants_a; exact ox_a; (exact rfl); exact upd_a) | (apply ao_skip0; exact nots_a) | (apply ao_append; exact wants_a; (exact rfl); assumption; (exact rfl); exact cut_a; exact has_a; (exact rfl); (exact rfl); omega; omega; omega; (exact rfl); intro vr lr hr)) | ((first | apply ao_call | apply aq_call); exact wants_a; (first | exact oc_func rfl | exact oc_clos rfl rfl | exact oc_bnd rfl rfl); (exact rfl); (first | exact fun w hw => hmt w hw.below)) | (apply ao_callr2; exact wants_a; (exact oc_func rfl); (exact rfl); (first | exact fun w hw => hch w (hres w hw cut_a)); intro vr lr hr) | (apply ah_one; (exact rfl)) | (apply ah_two; (exact rfl); (exact rfl)) | (apply ah_three; (exact rfl); (exact rfl); (exact rfl)) | (refine aw_is ?_; first | (apply aw_held (id := 30) (pl := (.t 0 (.t 1 (.t 2 (.t 3 (.t 4 (.t 5 (.t 6 (.t 7 (.t 8 (.t 9 (.t 10 (.t 11 (.t 12 (.t 13 (.t 14 (.t 15 (.t 16 (.t 17 (.t 18 (.t 19 (.t 20 (.t 21 (.o 22 (.t 23 .e))))))))))))))))))))))))); (kernel_rfl); (kernel_rfl); (kernel_rfl); (solve | (exact List.Sublist.refl _))) | refine aw_seq ?_ | refine aw_block ?_ | refine aw_region ?_ | refine aw_skip ?_ | refine aw_exit ?_ | refine aw_ret ?_ | refine aw_label ?_ | refine aw_scope ?_ | refine aw_cond_t rfl (by with_reducible rfl) ?_ | refine aw_cond_f rfl (by with_reducible rfl) ?_ | refine aw_draw (by kernel_rfl) (by kernel_rfl) ?_) | (first | (refine ah_is ?_; (fail_if_success first | refine ah_glit (b := true) rfl rfl rfl (by with_reducible rfl) ?_ | refine ah_glit (b := false) rfl rfl rfl (by with_reducible rfl) ?_); apply ah_gt; (exact rfl); (exact rfl); (exact rfl); exact t_a) | ((refine ao_is ?_; (fail_if_success first | refine ao_glit (b := true) rfl rfl (by with_reducible rfl) ?_ | refine ao_glit (b := false) rfl rfl (by with_reducible rfl) ?_)); apply ao_gt; (exact rfl); (exact rfl); exact t_a) | ((refine aq_is ?_; (fail_if_success first | refine aq_glit (b := true) rfl rfl (by with_reducible rfl) ?_ | refine aq_glit (b := false) rfl rfl (by with_reducible rfl) ?_)); apply aq_gt; (exact rfl); (exact rfl); exact t_a) | (apply aw_ct; (exact rfl); exact t_a)) | (first | (refine ah_is ?_; (fail_if_success first | refine ah_glit (b := true) rfl rfl rfl (by with_reducible rfl) ?_ | refine ah_glit (b := false) rfl rfl rfl (by with_reducible rfl) ?_); apply ah_gf; (exact rfl); (exact rfl); (exact rfl); exact f_a) | ((refine ao_is ?_; (fail_if_success first | refine ao_glit (b := true) rfl rfl (by with_reducible rfl) ?_ | refine ao_glit (b := false) rfl rfl (by with_reducible rfl) ?_)); apply ao_gf; (exact rfl); (exact rfl); exact f_a) | ((refine aq_is ?_; (fail_if_success first | refine aq_glit (b := true) rfl rfl (by with_reducible rfl) ?_ | refine aq_glit (b := false) rfl rfl (by with_reducible rfl) ?_)); apply aq_gf; (exact rfl); (exact rfl); exact f_a) | (apply aw_cf; (exact rfl); exact f_a)) | refine at_normal ?_ | refine at_exit ?_ | refine at_ret ?_ | refine ib_normal ?_ | refine ib_exit ?_ | refine ib_other ?_ | refine ib_ret ?_ | refine lq_exit ?_ | refine lq_ret ?_ | refine ci_ret ?_ | refine ci_exit ?_ | refine r1_ret rfl ?_ | refine r1_normal rfl ?_ | refine r2_ret rfl rfl ?_ | refine r2_normal rfl rfl ?_ | refine r3_ret rfl rfl rfl ?_ | refine r3_normal rfl rfl rfl ?_ | refine ng_normal ?_ | refine ng_exit ?_ | refine ng_ret ?_ | (apply rt_ret; (exact rfl); (exact rfl); (exact rfl); exact has_a; exact has_a; (exact rfl); (exact rfl)) | (apply rc1_ret; (exact rfl); exact has_a; (exact rfl)) | (apply rc2_ret; (exact rfl); exact has_a; (exact rfl); (exact rfl)) | (refine ao_is ?_; (fail_if_success first | refine ao_glit (b := true) rfl rfl (by with_reducible rfl) ?_ | refine ao_glit (b := false) rfl rfl (by with_reducible rfl) ?_); refine ao_gbool rfl rfl (fun _ => ?_) (fun _ => ?_)) | (refine aq_is ?_; (fail_if_success first | refine aq_glit (b := true) rfl rfl (by with_reducible rfl) ?_ | refine aq_glit (b := false) rfl rfl (by with_reducible rfl) ?_); refine aq_gbool rfl rfl (fun _ => ?_) (fun _ => ?_)) | (refine aw_is ?_; refine aw_cond rfl (fun _ => ?_) (fun _ => ?_)))
            revert vr lr hr
            intro vc lc2 rc
            repeat' (first | refine aw_seq ?_ | refine zz ?_ | refine zon fun _ => ?_ | refine zoa fun vr lr hr => ?_ | (apply ao_callr2; exact wants_a; (exact oc_func rfl); (exact rfl); (first | exact fun w hw => hadd vc w (Vec.RepH.capr hw hrv cut_a) (Vec.RepH.capr hw rc cut_a)); intro vr lr hr) | refine zoS (fun _ => ?_) (fun _ => ?_) | refine zqS (fun _ => ?_) (fun _ => ?_) | refine zwS (fun _ => ?_) (fun _ => ?_))
            exact lq_normal' (H' := lr ++ (ly2 ++ (([(g5, .cells cs5.toArray 61 (0, 0))] ++ ls) ++ (lx ++ [])))) ⟨n + 1, v2, vr, lr, rfl, by omega, by rw [htk]; exact hP2, hr, rfl, rfl⟩ (by omega) (by repeat (first | exact sub_nil | refine sub_cons rfl ?_)) hsub_a
        · have es1 : (on.s == oi.s) = false := beq_eq_false_iff_ne.2 hse
          have hin : inB (scT ss) (oi.s, (k : Int)) on = false := by
            cases h : inB (scT ss) (oi.s, (k : Int)) on
            · rfl
            · exact absurd (inB_iff.1 h).1 hse
          repeat' (first | (apply ao_nilh; exact hsub_a) | apply ao_nil | apply aq_nil | apply ah_end | ((first | apply ao_val | apply aq_val | (apply ah_take; (exact rfl))); exact wants_a; exact ov_a; (exact rfl)) | ((first | apply ao_skip | apply aq_skip | (apply ah_skip; (exact rfl))); exact nots_a; (exact rfl)) | (refine ao_is ?_; first | (apply ao_new; exact wants_a; exact on_a; (exact rfl); intro _) | (apply ao_store; exact wants_a; exact ow_a; exact upd_a) | (apply ao_valw; exact wants_a; exact ox_a; (exact rfl); exact upd_a) | (apply ao_skip0; exact nots_a) | (apply ao_append; exact wants_a; (exact rfl); assumption; (exact rfl); exact cut_a; exact has_a; (exact rfl); (exact rfl); omega; omega; omega; (exact rfl); intro vr lr hr)) | ((first | apply ao_call | apply aq_call); exact wants_a; (first | exact oc_func rfl | exact oc_clos rfl rfl | exact oc_bnd rfl rfl); (exact rfl); (first | exact fun w hw => hmt w hw.below)) | (apply ah_one; (exact rfl)) | (apply ah_two; (exact rfl); (exact rfl)) | (apply ah_three; (exact rfl); (exact rfl); (exact rfl)) | (refine aw_is ?_; first | (apply aw_held (id := 30) (pl := (.t 0 (.t 1 (.t 2 (.t 3 (.t 4 (.t 5 (.t 6 (.t 7 (.t 8 (.t 9 (.t 10 (.t 11 (.t 12 (.t 13 (.t 14 (.t 15 (.t 16 (.t 17 (.t 18 (.t 19 (.t 20 (.t 21 (.o 22 (.t 23 .e))))))))))))))))))))))))); (kernel_rfl); (kernel_rfl); (kernel_rfl); (solve | (exact List.Sublist.refl _))) | refine aw_seq ?_ | refine aw_block ?_ | refine aw_region ?_ | refine aw_skip ?_ | refine aw_exit ?_ | refine aw_ret ?_ | refine aw_label ?_ | refine aw_scope ?_ | refine aw_cond_t rfl (by with_reducible rfl) ?_ | refine aw_cond_f rfl (by with_reducible rfl) ?_ | refine aw_draw (by kernel_rfl) (by kernel_rfl) ?_) | (first | (refine ah_is ?_; (fail_if_success first | refine ah_glit (b := true) rfl rfl rfl (by with_reducible rfl) ?_ | refine ah_glit (b := false) rfl rfl rfl (by with_reducible rfl) ?_); apply ah_gt; (exact rfl); (exact rfl); (exact rfl); exact t_a) | ((refine ao_is ?_; (fail_if_success first | refine ao_glit (b := true) rfl rfl (by with_reducible rfl) ?_ | refine ao_glit (b := false) rfl rfl (by with_reducible rfl) ?_)); apply ao_gt; (exact rfl); (exact rfl); exact t_a) | ((refine aq_is ?_; (fail_if_success first | refine aq_glit (b := true) rfl rfl (by with_reducible rfl) ?_ | refine aq_glit (b := false) rfl rfl (by with_reducible rfl) ?_)); apply aq_gt; (exact rfl); (exact rfl); exact t_a) | (apply aw_ct; (exact rfl); exact t_a)) | (first | (refine ah_is ?_; (fail_if_success first | refine ah_glit (b := true) rfl rfl rfl (by with_reducible rfl) ?_ | refine ah_glit (b := false) rfl rfl rfl (by with_reducible rfl) ?_); apply ah_gf; (exact rfl); (exact rfl); (exact rfl); exact f_a) | ((refine ao_is ?_; (fail_if_success first | refine ao_glit (b := true) rfl rfl (by with_reducible rfl) ?_ | refine ao_glit (b := false) rfl rfl (by with_reducible rfl) ?_)); apply ao_gf; (exact rfl); (exact rfl); exact f_a) | ((refine aq_is ?_; (fail_if_success first | refine aq_glit (b := true) rfl rfl (by with_reducible rfl) ?_ | refine aq_glit (b := false) rfl rfl (by with_reducible rfl) ?_)); apply aq_gf; (exact rfl); (exact rfl); exact f_a) | (apply aw_cf; (exact rfl); exact f_a)) | refine at_normal ?_ | refine at_exit ?_ | refine at_ret ?_ | refine ib_normal ?_ | refine ib_exit ?_ | refine ib_other ?_ | refine ib_ret ?_ | refine lq_exit ?_ | refine lq_ret ?_ | refine ci_ret ?_ | refine ci_exit ?_ | refine r1_ret rfl ?_ | refine r1_normal rfl ?_ | refine r2_ret rfl rfl ?_ | refine r2_normal rfl rfl ?_ | refine r3_ret rfl rfl rfl ?_ | refine r3_normal rfl rfl rfl ?_ | refine ng_normal ?_ | refine ng_exit ?_ | refine ng_ret ?_ | (apply rt_ret; (exact rfl); (exact rfl); (exact rfl); exact has_a; exact has_a; (exact rfl); (exact rfl)) | (apply rc1_ret; (exact rfl); exact has_a; (exact rfl)) | (apply rc2_ret; (exact rfl); exact has_a; (exact rfl); (exact rfl)) | (refine ao_is ?_; (fail_if_success first | refine ao_glit (b := true) rfl rfl (by with_reducible rfl) ?_ | refine ao_glit (b := false) rfl rfl (by with_reducible rfl) ?_); refine ao_gbool rfl rfl (fun _ => ?_) (fun _ => ?_)) | (refine aq_is ?_; (fail_if_success first | refine aq_glit (b := true) rfl rfl (by with_reducible rfl) ?_ | refine aq_glit (b := false) rfl rfl (by with_reducible rfl) ?_); refine aq_gbool rfl rfl (fun _ => ?_) (fun _ => ?_)) | (refine aw_is ?_; refine aw_cond rfl (fun _ => ?_) (fun _ => ?_)))
          exact lq_normal' ⟨n + 1, v, vs, lv, rfl, by omega, by rw [htk]; exact hP.skip hin, hrv, rfl, rfl⟩ (by omega) (by repeat (first | exact sub_nil | refine sub_cons rfl ?_)) hsub_a
      · obtain rfl : n = ps.length := by omega
        rw [List.take_length, hobs] at hP hgt
        obtain ⟨wv, wl⟩ := hP.wf hgt (by omega) hNl
        have hsx := fun w' (hl : Lies w' lx) => losum_ok hLx hsmx oi.s (k : Int) w' hl
        have hsy := fun w' (hl : Lies w' ly2) => losum_ok hLy2 hsmy oi.s (k : Int) w' hl
        rw [hP.is hS] at hsx
        rw [hP.is hS2] at hsy
        have hsv := fun u1 u2 w' h1 h2 => show Calls Tryz.prog 16 #[u1, u2] w' fun e w'' => e = .returned (.bool true) ∧ Below w'.heap.size w' w'' by
          have := Vec.vsame_ok u1 u2 v v wv wv w' h1 h2
          rwa [beq_self_eq_true] at this
        repeat' (first | refine aw_seq ?_ | refine zz ?_ | refine zon fun _ => ?_ | refine zoa fun vr lr hr => ?_ | ((first | apply ao_call | apply aq_call); exact wants_a; (first | exact oc_func rfl | exact oc_clos rfl rfl | exact oc_bnd rfl rfl); (exact rfl); (first | exact fun w hw => hsv _ _ w (hw.oldr (by assumption) cut_a) (hw.oldr hrv cut_a))) | (apply ao_callr; exact wants_a; (exact oc_func rfl); (exact rfl); (first | exact fun w hw => hsx w (lies_of hw (l := lx) cut_a) | exact fun w hw => hsy w (lies_of hw (l := ly2) cut_a)); intro vr lr hr) | refine zoS (fun _ => ?_) (fun _ => ?_) | refine zqS (fun _ => ?_) (fun _ => ?_) | refine zwS (fun _ => ?_) (fun _ => ?_))
        exact lq_normal' (H' := ly2 ++ (([(g5, .cells cs5.toArray 61 (0, 0))] ++ ls) ++ (lx ++ []))) ⟨k + 1, rfl, by omega, rfl, rfl⟩ (by omega) (by repeat (first | exact sub_nil | refine sub_cons rfl ?_)) hsub_a
    · obtain rfl : k = ss.length := by omega
      repeat' (first | refine aw_seq ?_ | refine zz ?_ | refine zon fun _ => ?_ | refine zoa fun vr lr hr => ?_ | refine zoS (fun _ => ?_) (fun _ => ?_) | refine zqS (fun _ => ?_) (fun _ => ?_) | refine zwS (fun _ => ?_) (fun _ => ?_))
      exact lq_normal' ⟨i + 1, rfl, by omega, rfl, rfl⟩ (by omega) (by repeat (first | exact sub_nil | refine sub_cons rfl ?_)) hsub_a
  · obtain rfl : i = ps.length := by omega
    have hsa := fun (m : List (List UInt8)) (hm : m.length ≤ 100000) v u w' hv hu => show Calls Tryz.prog 13 #[v, u] w' fun e w'' => e = .returned (.bool true) ∧ Below w'.heap.size w' w'' by
      have := Trt.rtexts_ok m m hm v u w' hv hu
      rwa [beq_self_eq_true] at this
    have hpx := fun w' (hl : Lies w' lx) => lospaces_ok hLx hsmx w' hl
    have hpy := fun w' (hl : Lies w' ly2) => lospaces_ok hLy2 hsmy w' hl
    rw [hS2.spaces hS] at hpy
    have hle := hS.spaces_le
    have hle2 : (spacesS L).length ≤ ps.length := by have h1 := congrArg List.length hobs; rw [List.length_map] at h1; omega
    generalize spacesS L = spc at hpx hpy hle hle2
    repeat' (first | refine aw_seq ?_ | ((first | apply ao_val | apply aq_val); exact wants_a; (first | exact ov_lenr rfl (by assumption) | exact ov_a); (exact rfl)) | refine zy ?_ | refine zon fun _ => ?_ | refine zoa fun vr lr hr => ?_ | ((first | apply ao_call | apply aq_call); exact wants_a; (first | exact oc_func rfl | exact oc_clos rfl rfl | exact oc_bnd rfl rfl); (exact rfl); (first | exact fun w hw => alive_ok w | exact fun w hw => hsa spc (by omega) _ _ w (hw.oldr (by assumption) cut_a) (hw.oldr (by assumption) cut_a))) | (apply ao_callr; exact wants_a; (exact oc_func rfl); (exact rfl); (first | exact fun w hw => hpx w (lies_of hw (l := lx) cut_a) | exact fun w hw => hpy w (lies_of hw (l := ly2) cut_a)); intro vr lr hr) | refine zoS (fun _ => ?_) (fun _ => ?_) | refine zqS (fun _ => ?_) (fun _ => ?_) | refine zwS (fun _ => ?_) (fun _ => ?_))
    exact fun w' hw => ⟨by rw [decide_eq_true (by omega)], hw.below⟩
end Lct
end Go.Proofs.YtdakeicfhbggeaaGreat
