/- The walk of CachePlays of layer 8; conditions: none. -/
import Derived.Test.YtboimmfegeinaaaGreatChz
namespace Go.Proofs.YtboimmfegeinaaaGreat
namespace Chm
open Go Go.RowKit Sx Lab Vec Ojt Evt
attribute [local irreducible] Go.Calls

theorem res_nil (w : World) : ResAt w (.slice none 0 0) [] := OldRow.nil
/-- An event's deltas: where their charges lie, and that their names are short. -/
theorem dl_facts {w0 : World} {ps : List PO} {gs : List Gr} {fl : Int} {kind : Int} {p : PO} {ver : Int} {qs : List PO} (hw1 : wfL ps) (hwo : wfS p.2) (hw2 : wfL qs) (hwg : wfG gs) (hl : ps.length ≤ 1000) (hgl : gs.length ≤ 80000)
    (hres : ∀ q ∈ ps, ResAt w0 q.1 q.2.rs) (ho : ResAt w0 p.1 p.2.rs) (hq : ∀ q ∈ qs, ResAt w0 q.1 q.2.rs) :
    (∀ d ∈ (apP ps gs fl kind p ver qs).2.1, ResAt w0 d.old.1 d.old.2.rs ∧ ResAt w0 d.new.1 d.new.2.rs) ∧ wfD (apP ps gs fl kind p ver qs).2.1 := by
  obtain ⟨k1, k2, k3, k4, k5, k6⟩ := apP_keep (fl := fl) (kind := kind) (p := p) (ver := ver) (qs := qs) hw1 hwo hw2 hwg hl hgl
  rcases k6 with e | ⟨e, hnl⟩
  · rw [e]; exact ⟨(fun d hd => by cases hd), by simp, (fun d hd => by cases hd)⟩
  · rw [e]
    have hz : ResAt w0 zP.1 zP.2.rs ∧ wfS zP.2 := ⟨res_nil w0, by simp [wfS, wfR]⟩
    have hx : ∀ q ∈ (nxP ps gs fl kind p ver qs).1, ResAt w0 q.1 q.2.rs ∧ wfS q.2 := fun q hq2 => by
      rcases nxP_mem q hq2 with h | rfl | h
      · exact ⟨hres q h, hw1.2 q h⟩
      · exact ⟨ho, hwo⟩
      · exact ⟨hq q h, hw2.2 q h⟩
    have key : ∀ d ∈ dlP ps (nxP ps gs fl kind p ver qs).1, (ResAt w0 d.old.1 d.old.2.rs ∧ wfS d.old.2) ∧ (ResAt w0 d.new.1 d.new.2.rs ∧ wfS d.new.2) := fun d hd => by
      obtain ⟨h1, h2⟩ := dlP_mem _ _ d hd
      constructor
      · rcases h1 with h | h
        · rw [h]; exact hz
        · exact ⟨hres _ h, hw1.2 _ h⟩
      · rcases h2 with h | h
        · rw [h]; exact hz
        · exact hx _ h
    refine ⟨fun d hd => ⟨(key d hd).1.1, (key d hd).2.1⟩, ?_, fun d hd => ⟨(key d hd).1.2, (key d hd).2.2⟩⟩
    have := dlP_len ps (nxP ps gs fl kind p ver qs).1
    omega

/-- Both caches have one's objects. -/
theorem same13 {n : Nat} {w0 w : World} {H R1 R2 l13 lo : Hp} {ps : List PO} {v13 vm : Value} (hw : RepH ⟨w0.heap.size, w0, n⟩ H w) (hD : DObjs (obs ps) v13 l13) (c1 : Cut H l13 R1) (hlo : RowB 36 8 vm lo ps.length (ps.flatMap cellsO)) (c2 : Cut H lo R2)
    (hres : ∀ p ∈ ps, ResAt w0 p.1 p.2.rs) (hwl : wfL ps) : Calls Tryz.prog 10 #[v13, vm] w fun e w' => e = .returned (.bool true) ∧ Below w.heap.size w w' := by
  obtain ⟨P, hP, hat⟩ := objs_atD hw hD c1
  have hwP : wfL P := ⟨by rw [robjs_len hP]; exact hwl.1, fun p hp => by
    have : p.2 ∈ obs ps := by rw [← hP]; exact List.mem_map.2 ⟨p, hp, rfl⟩
    obtain ⟨q, hq, e⟩ := List.mem_map.1 this
    rw [← e]
    exact hwl.2 q hq⟩
  have := robjs_ok v13 vm P ps hwP hwl w hat (objs_old hw hlo c2 fun p hp => (hres p hp).below hw.below)
  rwa [decide_eq_true hP] at this
/-- .. one's graves. -/
theorem same14 {n : Nat} {w0 w : World} {H R1 R2 l14 lg : Hp} {gs : List Gr} {v14 um : Value} (hw : RepH ⟨w0.heap.size, w0, n⟩ H w) (r14 : RowB 33 3 v14 l14 (gs.map (·.1)).length ((gs.map (·.1)).flatMap cellsK)) (c1 : Cut H l14 R1) (hlg : RowB 73 4 um lg gs.length (gs.flatMap cellsG)) (c2 : Cut H lg R2)
    (hwg : wfG gs) : Calls Tryz.prog 12 #[v14, um] w fun e w' => e = .returned (.bool true) ∧ Below w.heap.size w w' := by
  have := rkeys_ok v14 um (gs.map (·.1)) gs (by rw [List.length_map]; have := hwg.1; omega) w (hw.oldr r14 c1) (hw.oldr hlg c2)
  rwa [decide_eq_true rfl] at this

set_option maxHeartbeats 64000000 in
theorem plays_ok (v : Value) (es : List PE) (hn : ∀ e ∈ es, numE e) (w : World) (hv : EvsAt w v es) : Calls Tryz.prog 3 #[v] w fun e w' => e = .returned (.bool true) ∧ Below w.heap.size w w' := by
  have hfit := fun w' (hb : Below w.heap.size w w') => fits8_ok v es w' (hv.below hb)
  obtain ⟨a, cp, rfl, hat⟩ := OldRow.cells cellsE_len hv.1
  refine calls1 (args := [.slice a es.length cp]) Tryz.func3 rfl rfl rfl rfl ?_
  cases hq : fitEs es
  · rw [hq] at hfit
    repeat' (first | refine aw_seq ?_ | refine zz ?_ | refine zon fun _ => ?_ | refine zoa fun vr lr hr => ?_ | ((first | apply ao_call | apply aq_call); exact wants_a; (first | exact oc_func rfl | exact oc_clos rfl rfl); (exact rfl); (first | exact fun w hw => hfit w hw.below | exact fun w hw => palive_ok w)) | refine zoS (fun _ => ?_) (fun _ => ?_) | refine zqS (fun _ => ?_) (fun _ => ?_) | refine zwS (fun _ => ?_) (fun _ => ?_))
    exact fun w' hw => ⟨rfl, hw.below⟩
  · rw [hq] at hfit
    obtain ⟨h60, hwf⟩ := fitEs_wf hq hn
    repeat' (first | refine aw_seq ?_ | refine zz ?_ | refine zon fun _ => ?_ | refine zoa fun vr lr hr => ?_ | ((first | apply ao_call | apply aq_call); exact wants_a; (first | exact oc_func rfl | exact oc_clos rfl rfl); (exact rfl); (first | exact fun w hw => hfit w hw.below)) | ((apply ao_callD; exact wants_a; (exact oc_func rfl); (exact rfl); (intro w hw; exact pnew_ok w); intro vr lr hr)) | refine zoS (fun _ => ?_) (fun _ => ?_) | refine zqS (fun _ => ?_) (fun _ => ?_) | refine zwS (fun _ => ?_) (fun _ => ?_))
    obtain ⟨g, hvr, hL⟩ := hr
    subst hvr
    refine aw_for (t0 := [(0, .slice a es.length cp), (4, .pointer (some ⟨g, 0, none⟩)), (5, .pointer (some ⟨_, 0, none⟩)), (6, I (0 : Nat))]) (fun q t H => ∃ (i gm : Nat) (ps : List PO) (gs : List Gr) (fl : Int) (l lm : Hp), q = es.length - i ∧ i ≤ es.length ∧ LCh ⟨obs ps, gs, fl⟩ g l ∧ FitSt ⟨obs ps, gs, fl⟩ ∧ RCh w ps gs fl gm lm ∧ gs.length ≤ i ∧
        t = [(0, .slice a es.length cp), (4, .pointer (some ⟨g, 0, none⟩)), (5, .pointer (some ⟨gm, 0, none⟩)), (6, I i)] ∧ H = lm ++ (l ++ []))
      ⟨0, _, [], [], 0, lr, [(_, _)], rfl, by omega, hL, ⟨Fine.new, by simp, ⟨by simp, (fun g h => by cases h)⟩, (fun o h => by cases h)⟩, ⟨(fun p h => by cases h), ⟨by simp, (fun p h => by cases h)⟩, ⟨by simp, (fun g h => by cases h)⟩, by simp, _, _, [], [], rfl, RowB.nil, RowB.nil⟩, Nat.le_refl _, rfl, rfl⟩ (by repeat (first | exact sub_nil | refine sub_cons rfl ?_)) ?_
    clear hL
    rintro q t H ⟨i, gm, ps, gs, fl, l, lm, rfl, hi, hL, hF, hR, hgl, rfl, rfl⟩
    by_cases hlt : i < es.length
    · obtain ⟨⟨kind, ⟨x, o⟩, ver, v2, qs⟩, he⟩ := getP hlt
      have m1 := List.mem_of_getElem? he
      obtain ⟨hwo, hw2, hl3⟩ := hwf _ m1
      obtain ⟨ho, hv2⟩ := hv.2 _ m1
      simp only at hwo hw2 hl3 ho hv2
      obtain ⟨xa, xc, hx⟩ := ho.len
      obtain ⟨va, vc, hx2⟩ := hv2.1.len
      subst hx hx2
      obtain ⟨ga, o1, rfl, hg, hc⟩ := hat i _ (i : Int) he rfl
      have cA : ∀ (j : Nat) z, [I kind, S o.k, S o.s, S o.n, I o.ver, S o.c, .bool o.tm, .bool o.bs, .slice xa o.rs.length xc, I ver, .slice va qs.length vc][j]? = some z → w.cell? ⟨ga, o1 + (i : Int).toNat * 11 + j, none⟩ = some z := hc
      have cK : ∀ (j : Nat) z, [S o.k, S o.s, S o.n][j]? = some z → w.cell? ⟨ga, o1 + (i : Int).toNat * 11 + 1 + 0 + j, none⟩ = some z := fun j z hj => by
        rw [Nat.add_zero, Nat.add_assoc]
        refine hc (1 + j) z ?_
        rcases j with _ | _ | _ | j <;> first | exact hj | simp at hj
      have hwps := hR.wfl
      have hwgs := hR.wfg
      have hlps := hR.len
      have hrps := hR.res
      have hobs := apP_obs ps gs fl kind (.slice xa o.rs.length xc, o) ver qs
      have hpa := fun m R => papply_ok (m := m) (w0 := w) hL hF kind (.slice xa o.rs.length xc, o) ver (.slice va qs.length vc) qs hwo hw2 (by omega) ho hv2 R
      have hra := fun m R => rapply2_ok (m := m) hR kind (.slice xa o.rs.length xc, o) ver (.slice va qs.length vc) qs hwo hw2 (by omega) ho hv2 R
      obtain ⟨k1, k2, k3, k4, k5, k6⟩ := apP_keep (fl := fl) (kind := kind) (p := (.slice xa o.rs.length xc, o)) (ver := ver) (qs := qs) hwps hwo hw2 hwgs hlps (by omega)
      obtain ⟨hdd, hwd⟩ := dl_facts (w0 := w) (fl := fl) (kind := kind) (p := (.slice xa o.rs.length xc, o)) (ver := ver) (qs := qs) hwps hwo hw2 hwgs hlps (by omega) hrps ho hv2.2
      have hfine := ap_fine (kind := kind) (o := o) (ver := ver) (qs := obs qs) hF.fine
      rw [hobs] at hfine
      rw [hobs] at hpa
      generalize apP ps gs fl kind ((.slice xa o.rs.length xc : Value), o) ver qs = A at hobs hpa hra k1 k2 k3 k4 k5 k6 hdd hwd hfine
      obtain ⟨er, dd, ps2, gs2, fl2⟩ := A
      simp only at hpa hra k1 k2 k3 k4 k5 k6 hdd hwd hfine
      have hra2 : ∀ m R, CallsH Tryz.prog ⟨w.heap.size, w, m⟩ 8 [.pointer (some ⟨gm, 0, none⟩), EV kind (.slice xa o.rs.length xc, o) ver (.slice va qs.length vc)] (lm ++ R) fun r H' =>
          ∃ v u rd lo lg ld, r = .tuple #[rd, I er] ∧ H' = (gm, .cells #[v, u, I fl2] 31 (0, 0)) :: (lo ++ (lg ++ (ld ++ R))) ∧ RowB 36 8 v lo ps2.length (ps2.flatMap cellsO) ∧ RowB 73 4 u lg gs2.length (gs2.flatMap cellsG) ∧ RowB 57 21 rd ld dd.length (dd.flatMap cellsD) := hra
      have hres2 : ∀ p ∈ ps2, ResAt w p.1 p.2.rs := fun p hp => by
        rcases k5 p hp with h | rfl | h
        · exact hrps p h
        · exact ho
        · exact hv2.2 p h
      have hF2 : FitSt ⟨obs ps2, gs2, fl2⟩ := ⟨hfine, by simp only [obs_len]; exact k3, k2, fun q hq => by
        obtain ⟨p, hp, rfl⟩ := List.mem_map.1 hq
        exact k1.2 p hp⟩
      repeat' (first | (apply ao_nilh; exact hsub_a) | apply ao_nil | apply aq_nil | apply ah_end | ((first | apply ao_val | apply aq_val | (apply ah_take; (exact rfl))); exact wants_a; (first | exact ov_nilcheck rfl | exact ov_load_oa rfl hg cA rfl | exact ov_load_oa rfl hg cK rfl | exact ov_a); (exact rfl)) | ((first | apply ao_skip | apply aq_skip | (apply ah_skip; (exact rfl))); exact nots_a; (exact rfl)) | (refine ao_is ?_; first | (apply ao_new; exact wants_a; exact on_a; (exact rfl); intro _) | (apply ao_store; exact wants_a; exact ow_a; exact upd_a) | (apply ao_valw; exact wants_a; exact ox_a; (exact rfl); exact upd_a) | (apply ao_skip0; exact nots_a) | (apply ao_append; exact wants_a; (exact rfl); assumption; (exact rfl); exact cut_a; exact has_a; (exact rfl); (exact rfl); omega; omega; omega; (exact rfl); intro vr lr hr)) | ((first | apply ao_call | apply aq_call); exact wants_a; (first | exact oc_func rfl | exact oc_clos rfl rfl); (exact rfl); (first | exact fun w hw => same12 hw hD cut_a r2 cut_a hdd hwd)) | ((apply ao_callH (l := l); exact wants_a; (exact oc_func rfl); (exact rfl); (exact Cut.skip _ (Cut.skipA lm Cut.here)); (exact hpa _ _); rintro _ _ ⟨rd, ld, l2, rfl, rfl, hL2, hD⟩)) | ((apply ao_callH (l := lm); exact wants_a; (exact oc_func rfl); (exact rfl); (exact Cut.skipA ld (Cut.skipA l2 (Cut.skip _ Cut.here))); (exact hra2 _ _); rintro _ _ ⟨vm, um, rd2, lo2, lg2, ld2, rfl, rfl, hlo2, hlg2, r2⟩)) | (apply ah_one; (exact rfl)) | (apply ah_two; (exact rfl); (exact rfl)) | (apply ah_three; (exact rfl); (exact rfl); (exact rfl)) | (refine aw_is ?_; first | (apply aw_held (id := 13) (pl := (.t 0 (.t 2 (.t 3 (.t 4 (.t 5 (.o 1 (.o 6 (.t 7 .e))))))))); (kernel_rfl); (kernel_rfl); (kernel_rfl); (solve | (exact List.Sublist.refl _))) | refine aw_seq ?_ | refine aw_block ?_ | refine aw_region ?_ | refine aw_skip ?_ | refine aw_exit ?_ | refine aw_ret ?_ | refine aw_label ?_ | refine aw_scope ?_ | refine aw_cond_t rfl (by with_reducible rfl) ?_ | refine aw_cond_f rfl (by with_reducible rfl) ?_ | refine aw_draw (by kernel_rfl) (by kernel_rfl) ?_) | (first | (refine ah_is ?_; (fail_if_success first | refine ah_glit (b := true) rfl rfl rfl (by with_reducible rfl) ?_ | refine ah_glit (b := false) rfl rfl rfl (by with_reducible rfl) ?_); apply ah_gt; (exact rfl); (exact rfl); (exact rfl); exact t_a) | ((refine ao_is ?_; (fail_if_success first | refine ao_glit (b := true) rfl rfl (by with_reducible rfl) ?_ | refine ao_glit (b := false) rfl rfl (by with_reducible rfl) ?_)); apply ao_gt; (exact rfl); (exact rfl); exact t_a) | ((refine aq_is ?_; (fail_if_success first | refine aq_glit (b := true) rfl rfl (by with_reducible rfl) ?_ | refine aq_glit (b := false) rfl rfl (by with_reducible rfl) ?_)); apply aq_gt; (exact rfl); (exact rfl); exact t_a) | (apply aw_ct; (exact rfl); exact t_a)) | (first | (refine ah_is ?_; (fail_if_success first | refine ah_glit (b := true) rfl rfl rfl (by with_reducible rfl) ?_ | refine ah_glit (b := false) rfl rfl rfl (by with_reducible rfl) ?_); apply ah_gf; (exact rfl); (exact rfl); (exact rfl); exact f_a) | ((refine ao_is ?_; (fail_if_success first | refine ao_glit (b := true) rfl rfl (by with_reducible rfl) ?_ | refine ao_glit (b := false) rfl rfl (by with_reducible rfl) ?_)); apply ao_gf; (exact rfl); (exact rfl); exact f_a) | ((refine aq_is ?_; (fail_if_success first | refine aq_glit (b := true) rfl rfl (by with_reducible rfl) ?_ | refine aq_glit (b := false) rfl rfl (by with_reducible rfl) ?_)); apply aq_gf; (exact rfl); (exact rfl); exact f_a) | (apply aw_cf; (exact rfl); exact f_a)) | refine at_normal ?_ | refine at_exit ?_ | refine at_ret ?_ | refine ib_normal ?_ | refine ib_exit ?_ | refine ib_other ?_ | refine ib_ret ?_ | refine lq_exit ?_ | refine lq_ret ?_ | refine ci_ret ?_ | refine ci_exit ?_ | refine r1_ret rfl ?_ | refine r1_normal rfl ?_ | refine r2_ret rfl rfl ?_ | refine r2_normal rfl rfl ?_ | refine r3_ret rfl rfl rfl ?_ | refine r3_normal rfl rfl rfl ?_ | refine ng_normal ?_ | refine ng_exit ?_ | refine ng_ret ?_ | (apply rt_ret; (exact rfl); (exact rfl); (exact rfl); exact has_a; exact has_a; (exact rfl); (exact rfl)) | (apply rc1_ret; (exact rfl); exact has_a; (exact rfl)) | (apply rc2_ret; (exact rfl); exact has_a; (exact rfl); (exact rfl)) | (refine ao_is ?_; (fail_if_success first | refine ao_glit (b := true) rfl rfl (by with_reducible rfl) ?_ | refine ao_glit (b := false) rfl rfl (by with_reducible rfl) ?_); refine ao_gbool rfl rfl (fun _ => ?_) (fun _ => ?_)) | (refine aq_is ?_; (fail_if_success first | refine aq_glit (b := true) rfl rfl (by with_reducible rfl) ?_ | refine aq_glit (b := false) rfl rfl (by with_reducible rfl) ?_); refine aq_gbool rfl rfl (fun _ => ?_) (fun _ => ?_)) | (refine aw_is ?_; refine aw_cond rfl (fun _ => ?_) (fun _ => ?_)))
      have hpg := fun w' (hl : Lies w' l2) => pget_ok hL2 hF2 (keyO o) w' hl
      have hrg := fun w' (h : ChAt w' gm vm ps2 um gs2 fl2) => rget_ok gm vm ps2 um gs2 fl2 (keyO o) (by omega) w' h
      have hpf : ∀ w', Lies w' l2 → Calls Tryz.prog 17 #[.pointer (some ⟨g, 0, none⟩)] w' fun e w'' => e = .returned (I fl2) ∧ Below w'.heap.size w' w'' := fun w' hl => pfloor_ok hL2 hF2 w' hl
      have hpk := fun w' (hl : Lies w' l2) => pknown_ok hL2 hF2 (keyO o) w' hl
      have hrk := fun w' (h : ChAt w' gm vm ps2 um gs2 fl2) => rknown_ok gm vm ps2 um gs2 fl2 (keyO o) (by omega) (by omega) w' h
      simp only [getO_obs] at hpg
      simp only [knO_obs] at hpk
      cases hfk : findK ps2 (keyO o) with
      | none =>
        rw [hfk] at hrg
        simp only [hfk, Option.map_none, getB, getV] at hpg hrg
        have hs17 := fun w' (hb : Below w.heap.size w w') {v15 : Value} (h : OldRow w' 2 v15 zO.rs.length (rcells zO.rs)) => Ojt.rsame_ok zO zO v15 (.slice none 0 0) (by simp [wfO, wfR]) (by simp [wfO, wfR]) w' h (res_nil w')
        rw [same_eq, decide_eq_true rfl] at hs17
        repeat' (first | (apply ao_nilh; exact hsub_a) | apply ao_nil | apply aq_nil | apply ah_end | ((first | apply ao_val | apply aq_val | (apply ah_take; (exact rfl))); exact wants_a; (first | exact ov_nilcheck rfl | exact ov_a); (exact rfl)) | ((first | apply ao_skip | apply aq_skip | (apply ah_skip; (exact rfl))); exact nots_a; (exact rfl)) | (refine ao_is ?_; first | (apply ao_new; exact wants_a; exact on_a; (exact rfl); intro _) | (apply ao_store; exact wants_a; exact ow_a; exact upd_a) | (apply ao_valw; exact wants_a; exact ox_a; (exact rfl); exact upd_a) | (apply ao_skip0; exact nots_a) | (apply ao_append; exact wants_a; (exact rfl); assumption; (exact rfl); exact cut_a; exact has_a; (exact rfl); (exact rfl); omega; omega; omega; (exact rfl); intro vr lr hr)) | ((first | apply ao_call | apply aq_call); exact wants_a; (first | exact oc_func rfl | exact oc_clos rfl rfl); (exact rfl); (first | exact fun w hw => same13 hw r13 cut_a hlo2 cut_a hres2 k1 | exact fun w hw => same14 hw r14 cut_a hlg2 cut_a k2 | exact fun w hw => hrg w (chAt_of hw has_a hlo2 cut_a hlg2 cut_a hres2) | exact fun w hw => hs17 w hw.below (hw.oldr r15 cut_a) | exact fun w hw => hpf w (lies_of hw (l := l2) cut_a) | exact fun w hw => hpk w (lies_of hw (l := l2) cut_a) | exact fun w hw => hrk w (chAt_of hw has_a hlo2 cut_a hlg2 cut_a hres2))) | ((apply ao_callD; exact wants_a; (exact oc_func rfl); (exact rfl); (intro w hw; exact pobjects_ok hL2 hF2 w (lies_of hw (l := l2) cut_a)); intro v13 l13 r13)) | ((apply ao_callr; exact wants_a; (exact oc_func rfl); (exact rfl); (intro w hw; exact pgraves_ok hL2 hF2 w (lies_of hw (l := l2) cut_a)); intro v14 l14 r14)) | ((apply ao_callrg; exact wants_a; (exact oc_func rfl); (exact rfl); (intro w hw; exact hpg w (lies_of hw (l := l2) cut_a)); intro v15 l15 r15; obtain ⟨a15, c15, hz15⟩ := r15.len; subst hz15)) | (apply ah_one; (exact rfl)) | (apply ah_two; (exact rfl); (exact rfl)) | (apply ah_three; (exact rfl); (exact rfl); (exact rfl)) | (refine aw_is ?_; first | (apply aw_held (id := 13) (pl := (.t 0 (.t 2 (.t 3 (.t 4 (.t 5 (.o 1 (.o 6 (.t 7 .e))))))))); (kernel_rfl); (kernel_rfl); (kernel_rfl); (solve | (exact List.Sublist.refl _))) | (apply aw_held (id := 14) (pl := (.t 0 (.t 2 (.t 3 (.t 4 (.t 5 (.o 1 (.o 6 (.t 7 .e))))))))); (kernel_rfl); (kernel_rfl); (kernel_rfl); (solve | (exact List.Sublist.refl _))) | (apply aw_held (id := 18) (pl := (.t 0 (.t 1 (.t 2 (.t 3 (.t 4 (.t 5 (.t 6 (.t 7 (.t 8 (.t 9 (.t 10 (.t 11 (.t 12 (.t 13 (.t 14 (.t 15 (.t 16 (.t 17 (.t 18 (.t 19 (.t 20 (.t 21 (.t 22 (.t 23 (.t 24 (.t 25 (.t 27 (.t 28 (.t 29 (.t 30 (.o 26 (.t 31 (.t 32 (.t 33 (.t 34 (.t 35 (.t 37 (.t 38 (.o 36 (.o 39 (.t 40 (.t 41 .e))))))))))))))))))))))))))))))))))))))))))); (kernel_rfl); (kernel_rfl); (kernel_rfl); (solve | (exact List.Sublist.refl _))) | refine aw_seq ?_ | refine aw_block ?_ | refine aw_region ?_ | refine aw_skip ?_ | refine aw_exit ?_ | refine aw_ret ?_ | refine aw_label ?_ | refine aw_scope ?_ | refine aw_cond_t rfl (by with_reducible rfl) ?_ | refine aw_cond_f rfl (by with_reducible rfl) ?_ | refine aw_draw (by kernel_rfl) (by kernel_rfl) ?_) | (first | (refine ah_is ?_; (fail_if_success first | refine ah_glit (b := true) rfl rfl rfl (by with_reducible rfl) ?_ | refine ah_glit (b := false) rfl rfl rfl (by with_reducible rfl) ?_); apply ah_gt; (exact rfl); (exact rfl); (exact rfl); exact t_a) | ((refine ao_is ?_; (fail_if_success first | refine ao_glit (b := true) rfl rfl (by with_reducible rfl) ?_ | refine ao_glit (b := false) rfl rfl (by with_reducible rfl) ?_)); apply ao_gt; (exact rfl); (exact rfl); exact t_a) | ((refine aq_is ?_; (fail_if_success first | refine aq_glit (b := true) rfl rfl (by with_reducible rfl) ?_ | refine aq_glit (b := false) rfl rfl (by with_reducible rfl) ?_)); apply aq_gt; (exact rfl); (exact rfl); exact t_a) | (apply aw_ct; (exact rfl); exact t_a)) | (first | (refine ah_is ?_; (fail_if_success first | refine ah_glit (b := true) rfl rfl rfl (by with_reducible rfl) ?_ | refine ah_glit (b := false) rfl rfl rfl (by with_reducible rfl) ?_); apply ah_gf; (exact rfl); (exact rfl); (exact rfl); exact f_a) | ((refine ao_is ?_; (fail_if_success first | refine ao_glit (b := true) rfl rfl (by with_reducible rfl) ?_ | refine ao_glit (b := false) rfl rfl (by with_reducible rfl) ?_)); apply ao_gf; (exact rfl); (exact rfl); exact f_a) | ((refine aq_is ?_; (fail_if_success first | refine aq_glit (b := true) rfl rfl (by with_reducible rfl) ?_ | refine aq_glit (b := false) rfl rfl (by with_reducible rfl) ?_)); apply aq_gf; (exact rfl); (exact rfl); exact f_a) | (apply aw_cf; (exact rfl); exact f_a)) | refine at_normal ?_ | refine at_exit ?_ | refine at_ret ?_ | refine ib_normal ?_ | refine ib_exit ?_ | refine ib_other ?_ | refine ib_ret ?_ | refine lq_exit ?_ | refine lq_ret ?_ | refine ci_ret ?_ | refine ci_exit ?_ | refine r1_ret rfl ?_ | refine r1_normal rfl ?_ | refine r2_ret rfl rfl ?_ | refine r2_normal rfl rfl ?_ | refine r3_ret rfl rfl rfl ?_ | refine r3_normal rfl rfl rfl ?_ | refine ng_normal ?_ | refine ng_exit ?_ | refine ng_ret ?_ | (apply rt_ret; (exact rfl); (exact rfl); (exact rfl); exact has_a; exact has_a; (exact rfl); (exact rfl)) | (apply rc1_ret; (exact rfl); exact has_a; (exact rfl)) | (apply rc2_ret; (exact rfl); exact has_a; (exact rfl); (exact rfl)) | (refine ao_is ?_; (fail_if_success first | refine ao_glit (b := true) rfl rfl (by with_reducible rfl) ?_ | refine ao_glit (b := false) rfl rfl (by with_reducible rfl) ?_); refine ao_gbool rfl rfl (fun _ => ?_) (fun _ => ?_)) | (refine aq_is ?_; (fail_if_success first | refine aq_glit (b := true) rfl rfl (by with_reducible rfl) ?_ | refine aq_glit (b := false) rfl rfl (by with_reducible rfl) ?_); refine aq_gbool rfl rfl (fun _ => ?_) (fun _ => ?_)) | (refine aw_is ?_; refine aw_cond rfl (fun _ => ?_) (fun _ => ?_)))
        exact lq_normal' (H' := ((gm, .cells #[vm, um, I fl2] 31 (0, 0)) :: (lo2 ++ lg2)) ++ (l2 ++ [])) ⟨i + 1, gm, ps2, gs2, fl2, l2, _, rfl, by omega, hL2, hF2, ⟨hres2, k1, k2, k3, vm, um, lo2, lg2, rfl, hlo2, hlg2⟩, by omega, rfl, rfl⟩ (by omega) (by repeat (first | exact sub_nil | refine sub_cons rfl ?_)) (by rw [List.cons_append, List.append_assoc]; exact hsub_a)
      | some own =>
        obtain ⟨z, r⟩ := own
        have mo := List.mem_of_find?_eq_some hfk
        obtain ⟨za, zc, hz⟩ := (hres2 _ mo).len
        simp only at hz
        subst hz
        rw [hfk] at hrg
        simp only [hfk, Option.map_some, getB, getV] at hpg hrg
        have hs17 := fun w' (hb : Below w.heap.size w w') {v15 : Value} (h : OldRow w' 2 v15 r.rs.length (rcells r.rs)) => Ojt.rsame_ok r r v15 (.slice za r.rs.length zc) (k1.2 _ mo).wfO (k1.2 _ mo).wfO w' h ((hres2 _ mo).below hb)
        rw [same_eq, decide_eq_true rfl] at hs17
        repeat' (first | (apply ao_nilh; exact hsub_a) | apply ao_nil | apply aq_nil | apply ah_end | ((first | apply ao_val | apply aq_val | (apply ah_take; (exact rfl))); exact wants_a; (first | exact ov_nilcheck rfl | exact ov_a); (exact rfl)) | ((first | apply ao_skip | apply aq_skip | (apply ah_skip; (exact rfl))); exact nots_a; (exact rfl)) | (refine ao_is ?_; first | (apply ao_new; exact wants_a; exact on_a; (exact rfl); intro _) | (apply ao_store; exact wants_a; exact ow_a; exact upd_a) | (apply ao_valw; exact wants_a; exact ox_a; (exact rfl); exact upd_a) | (apply ao_skip0; exact nots_a) | (apply ao_append; exact wants_a; (exact rfl); assumption; (exact rfl); exact cut_a; exact has_a; (exact rfl); (exact rfl); omega; omega; omega; (exact rfl); intro vr lr hr)) | ((first | apply ao_call | apply aq_call); exact wants_a; (first | exact oc_func rfl | exact oc_clos rfl rfl); (exact rfl); (first | exact fun w hw => same13 hw r13 cut_a hlo2 cut_a hres2 k1 | exact fun w hw => same14 hw r14 cut_a hlg2 cut_a k2 | exact fun w hw => hrg w (chAt_of hw has_a hlo2 cut_a hlg2 cut_a hres2) | exact fun w hw => hs17 w hw.below (hw.oldr r15 cut_a) | exact fun w hw => hpf w (lies_of hw (l := l2) cut_a) | exact fun w hw => hpk w (lies_of hw (l := l2) cut_a) | exact fun w hw => hrk w (chAt_of hw has_a hlo2 cut_a hlg2 cut_a hres2))) | ((apply ao_callD; exact wants_a; (exact oc_func rfl); (exact rfl); (intro w hw; exact pobjects_ok hL2 hF2 w (lies_of hw (l := l2) cut_a)); intro v13 l13 r13)) | ((apply ao_callr; exact wants_a; (exact oc_func rfl); (exact rfl); (intro w hw; exact pgraves_ok hL2 hF2 w (lies_of hw (l := l2) cut_a)); intro v14 l14 r14)) | ((apply ao_callrg; exact wants_a; (exact oc_func rfl); (exact rfl); (intro w hw; exact hpg w (lies_of hw (l := l2) cut_a)); intro v15 l15 r15; obtain ⟨a15, c15, hz15⟩ := r15.len; subst hz15)) | (apply ah_one; (exact rfl)) | (apply ah_two; (exact rfl); (exact rfl)) | (apply ah_three; (exact rfl); (exact rfl); (exact rfl)) | (refine aw_is ?_; first | (apply aw_held (id := 13) (pl := (.t 0 (.t 2 (.t 3 (.t 4 (.t 5 (.o 1 (.o 6 (.t 7 .e))))))))); (kernel_rfl); (kernel_rfl); (kernel_rfl); (solve | (exact List.Sublist.refl _))) | (apply aw_held (id := 14) (pl := (.t 0 (.t 2 (.t 3 (.t 4 (.t 5 (.o 1 (.o 6 (.t 7 .e))))))))); (kernel_rfl); (kernel_rfl); (kernel_rfl); (solve | (exact List.Sublist.refl _))) | (apply aw_held (id := 18) (pl := (.t 0 (.t 1 (.t 2 (.t 3 (.t 4 (.t 5 (.t 6 (.t 7 (.t 8 (.t 9 (.t 10 (.t 11 (.t 12 (.t 13 (.t 14 (.t 15 (.t 16 (.t 17 (.t 18 (.t 19 (.t 20 (.t 21 (.t 22 (.t 23 (.t 24 (.t 25 (.t 27 (.t 28 (.t 29 (.t 30 (.o 26 (.t 31 (.t 32 (.t 33 (.t 34 (.t 35 (.t 37 (.t 38 (.o 36 (.o 39 (.t 40 (.t 41 .e))))))))))))))))))))))))))))))))))))))))))); (kernel_rfl); (kernel_rfl); (kernel_rfl); (solve | (exact List.Sublist.refl _))) | refine aw_seq ?_ | refine aw_block ?_ | refine aw_region ?_ | refine aw_skip ?_ | refine aw_exit ?_ | refine aw_ret ?_ | refine aw_label ?_ | refine aw_scope ?_ | refine aw_cond_t rfl (by with_reducible rfl) ?_ | refine aw_cond_f rfl (by with_reducible rfl) ?_ | refine aw_draw (by kernel_rfl) (by kernel_rfl) ?_) | (first | (refine ah_is ?_; (fail_if_success first | refine ah_glit (b := true) rfl rfl rfl (by with_reducible rfl) ?_ | refine ah_glit (b := false) rfl rfl rfl (by with_reducible rfl) ?_); apply ah_gt; (exact rfl); (exact rfl); (exact rfl); exact t_a) | ((refine ao_is ?_; (fail_if_success first | refine ao_glit (b := true) rfl rfl (by with_reducible rfl) ?_ | refine ao_glit (b := false) rfl rfl (by with_reducible rfl) ?_)); apply ao_gt; (exact rfl); (exact rfl); exact t_a) | ((refine aq_is ?_; (fail_if_success first | refine aq_glit (b := true) rfl rfl (by with_reducible rfl) ?_ | refine aq_glit (b := false) rfl rfl (by with_reducible rfl) ?_)); apply aq_gt; (exact rfl); (exact rfl); exact t_a) | (apply aw_ct; (exact rfl); exact t_a)) | (first | (refine ah_is ?_; (fail_if_success first | refine ah_glit (b := true) rfl rfl rfl (by with_reducible rfl) ?_ | refine ah_glit (b := false) rfl rfl rfl (by with_reducible rfl) ?_); apply ah_gf; (exact rfl); (exact rfl); (exact rfl); exact f_a) | ((refine ao_is ?_; (fail_if_success first | refine ao_glit (b := true) rfl rfl (by with_reducible rfl) ?_ | refine ao_glit (b := false) rfl rfl (by with_reducible rfl) ?_)); apply ao_gf; (exact rfl); (exact rfl); exact f_a) | ((refine aq_is ?_; (fail_if_success first | refine aq_glit (b := true) rfl rfl (by with_reducible rfl) ?_ | refine aq_glit (b := false) rfl rfl (by with_reducible rfl) ?_)); apply aq_gf; (exact rfl); (exact rfl); exact f_a) | (apply aw_cf; (exact rfl); exact f_a)) | refine at_normal ?_ | refine at_exit ?_ | refine at_ret ?_ | refine ib_normal ?_ | refine ib_exit ?_ | refine ib_other ?_ | refine ib_ret ?_ | refine lq_exit ?_ | refine lq_ret ?_ | refine ci_ret ?_ | refine ci_exit ?_ | refine r1_ret rfl ?_ | refine r1_normal rfl ?_ | refine r2_ret rfl rfl ?_ | refine r2_normal rfl rfl ?_ | refine r3_ret rfl rfl rfl ?_ | refine r3_normal rfl rfl rfl ?_ | refine ng_normal ?_ | refine ng_exit ?_ | refine ng_ret ?_ | (apply rt_ret; (exact rfl); (exact rfl); (exact rfl); exact has_a; exact has_a; (exact rfl); (exact rfl)) | (apply rc1_ret; (exact rfl); exact has_a; (exact rfl)) | (apply rc2_ret; (exact rfl); exact has_a; (exact rfl); (exact rfl)) | (refine ao_is ?_; (fail_if_success first | refine ao_glit (b := true) rfl rfl (by with_reducible rfl) ?_ | refine ao_glit (b := false) rfl rfl (by with_reducible rfl) ?_); refine ao_gbool rfl rfl (fun _ => ?_) (fun _ => ?_)) | (refine aq_is ?_; (fail_if_success first | refine aq_glit (b := true) rfl rfl (by with_reducible rfl) ?_ | refine aq_glit (b := false) rfl rfl (by with_reducible rfl) ?_); refine aq_gbool rfl rfl (fun _ => ?_) (fun _ => ?_)) | (refine aw_is ?_; refine aw_cond rfl (fun _ => ?_) (fun _ => ?_)))
        exact lq_normal' (H' := ((gm, .cells #[vm, um, I fl2] 31 (0, 0)) :: (lo2 ++ lg2)) ++ (l2 ++ [])) ⟨i + 1, gm, ps2, gs2, fl2, l2, _, rfl, by omega, hL2, hF2, ⟨hres2, k1, k2, k3, vm, um, lo2, lg2, rfl, hlo2, hlg2⟩, by omega, rfl, rfl⟩ (by omega) (by repeat (first | exact sub_nil | refine sub_cons rfl ?_)) (by rw [List.cons_append, List.append_assoc]; exact hsub_a)
    · have h0 := fun w' => papply0_ok 0 zP 1 (.slice none 0 0) [] (by simp [wfS, wfR]) ⟨by simp, fun p hp => by cases hp⟩ w' (res_nil w') ⟨OldRow.nil, fun p hp => by cases hp⟩
      repeat' (first | refine aw_seq ?_ | refine zz ?_ | refine zon fun _ => ?_ | refine zoa fun vr lr hr => ?_ | ((first | apply ao_call | apply aq_call); exact wants_a; (first | exact oc_func rfl | exact oc_clos rfl rfl); (exact rfl); (first | exact fun w hw => h0 w | exact fun w hw => pget0_ok k0 w | exact fun w hw => palive_ok w | exact fun w hw => pknown0_ok k0 w | exact fun w hw => pfloor0_ok w | exact fun w hw => pobjects0_ok w | exact fun w hw => pgraves0_ok w)) | refine zoS (fun _ => ?_) (fun _ => ?_) | refine zqS (fun _ => ?_) (fun _ => ?_) | refine zwS (fun _ => ?_) (fun _ => ?_))
      exact fun w' hw => ⟨rfl, hw.below⟩
end Chm
end Go.Proofs.YtboimmfegeinaaaGreat
