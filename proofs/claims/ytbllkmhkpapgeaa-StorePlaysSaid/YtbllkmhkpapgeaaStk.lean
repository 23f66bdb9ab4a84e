/- The walk of StorePlays of layer 9 (in work); conditions: none. -/
import Derived.Test.YtbllkmhkpapgeaaStj
import Derived.Test.YtbllkmhkpapgeaaStf
namespace Go.Proofs.Ytbllkmhkpapgeaa
namespace Stm
open Go Go.RowKit Sx Lab Vec Ojt Evt Chm
attribute [local irreducible] Go.Calls

/-- What both stores have of a key: the document's one hands it back with its place. -/
theorem gets_ok {w : World} {es : List PE} {lg : List Wr} (h : wrs es = lg) (hF : FitL lg) (hok : ∀ e ∈ es, okE w e) (k : Kt) :
    ∃ (q : Ob) (ya : Option Addr) (yc : Nat) (b : Bool), Chm.getV (findK (sortP (lastP es es.length)) k) = .tuple #[OV q (.slice ya q.rs.length yc), .bool b] ∧ getB (getO (osL lg) k) = (q, b) ∧ ResAt w (.slice ya q.rs.length yc) q.rs ∧ wfS q := by
  subst h
  have hfs := find_st hF.wl (fun e he => (hok e he).kind) k
  rw [hfs]
  cases hfk : findK (sortP (lastP es es.length)) k with
  | none => exact ⟨zO, none, 0, false, rfl, rfl, OldRow.nil, by simp [wfS, wfR]⟩
  | some p =>
    obtain ⟨e, he, hp⟩ := lastP_mem (sort_mem (List.mem_of_find?_eq_some hfk))
    have hr := (hok e he).res
    have hw := (hok e he).wf
    rw [hp] at hr hw
    obtain ⟨ya, yc, hy⟩ := hr.len
    obtain ⟨y, q⟩ := p
    simp only at hy hr hw
    subst hy
    exact ⟨q, ya, yc, true, rfl, rfl, hr, hw⟩

theorem logs_one {es fs : List PE} (h : wrs es = wrs fs) (ha : ∀ e ∈ es, (e.kind = 0 ∨ e.kind = 1) ∧ e.ver = 0 ∧ e.qs = []) (hb : ∀ e ∈ fs, (e.kind = 0 ∨ e.kind = 1) ∧ e.ver = 0 ∧ e.qs = []) : es.map evE = fs.map evE := by
  have key : ∀ {l : List PE}, (∀ e ∈ l, (e.kind = 0 ∨ e.kind = 1) ∧ e.ver = 0 ∧ e.qs = []) → l.map evE = (wrs l).map fun x => (⟨if x.1 = true then 1 else 0, x.2, 0, []⟩ : Ev) := fun {l} hl => by
    unfold wrs
    rw [List.map_map]
    refine List.map_congr_left fun e he => ?_
    obtain ⟨h1, h2, h3⟩ := hl e he
    unfold evE
    rw [h2, h3]
    rcases h1 with h1 | h1 <;> simp [wrE, h1]
  rw [key ha, key hb, h]
set_option maxHeartbeats 64000000 in
theorem plays_ok (v : Value) (ws : List PW) (hn : ∀ e ∈ ws, numR e.2.2.rs) (w : World) (hv : WrAt w v ws) : Calls Try.prog 3 #[v] w fun e w' => e = .returned (.bool true) ∧ Below w.heap.size w w' := by
  have hfit := fun w' (hb : Below w.heap.size w w') => fits9_ok v ws w' (hv.below hb)
  obtain ⟨a, cp, rfl, hat⟩ := OldRow.cells cellsW_len hv.1
  refine calls1 (args := [.slice a ws.length cp]) Try.func3 rfl rfl rfl rfl ?_
  cases hq : fitWs ws
  · rw [hq] at hfit
    repeat' (first | refine aw_seq ?_ | refine zz ?_ | refine zon fun _ => ?_ | refine zoa fun vr lr hr => ?_ | ((first | apply ao_call | apply aq_call); exact wants_a; (first | exact oc_func rfl | exact oc_clos rfl rfl); (exact rfl); (first | exact fun w hw => hfit w hw.below | exact fun w hw => salive_ok w)) | refine zoS (fun _ => ?_) (fun _ => ?_) | refine zqS (fun _ => ?_) (fun _ => ?_) | refine zwS (fun _ => ?_) (fun _ => ?_))
    exact fun w' hw => ⟨rfl, hw.below⟩
  rw [hq] at hfit
  obtain ⟨h60, hwf⟩ := fitWs_wf hq hn
  repeat' (first | refine aw_seq ?_ | refine zz ?_ | refine zon fun _ => ?_ | refine zoa fun vr lr hr => ?_ | ((first | apply ao_call | apply aq_call); exact wants_a; (first | exact oc_func rfl | exact oc_clos rfl rfl); (exact rfl); (first | exact fun w hw => hfit w hw.below)) | ((apply ao_callD; exact wants_a; (exact oc_func rfl); (exact rfl); (intro w hw; exact snew_ok w); intro vr lr hr)) | refine zoS (fun _ => ?_) (fun _ => ?_) | refine zqS (fun _ => ?_) (fun _ => ?_) | refine zwS (fun _ => ?_) (fun _ => ?_))
  obtain ⟨g, hvr, hL⟩ := hr
  subst hvr
  refine aw_for (t0 := [(0, .slice a ws.length cp), (4, .pointer (some ⟨g, 0, none⟩)), (5, .pointer (some ⟨_, 0, none⟩)), (6, I (0 : Nat))]) (fun q t H => ∃ (i gm : Nat) (es : List PE) (lg : List Wr) (l lm : Hp), q = ws.length - i ∧ i ≤ ws.length ∧ LSt lg g l ∧ FitL lg ∧ RSt w es gm lm ∧ wrs es = lg ∧ lg.length ≤ i ∧
      t = [(0, .slice a ws.length cp), (4, .pointer (some ⟨g, 0, none⟩)), (5, .pointer (some ⟨gm, 0, none⟩)), (6, I i)] ∧ H = lm ++ (l ++ []))
    ⟨0, _, [], [], lr, [(_, _)], rfl, by omega, hL, FitL.nil, ⟨(fun e h => by cases h), _, [], rfl, RowB.nil⟩, rfl, Nat.le_refl _, rfl, rfl⟩ (by repeat (first | exact sub_nil | refine sub_cons rfl ?_)) ?_
  clear hL
  rintro q t H ⟨i, gm, es, lg, l, lm, rfl, hi, hL, hF, hR, hwr, hlg, rfl, rfl⟩
  by_cases hlt : i < ws.length
  · obtain ⟨⟨gone, ⟨x, o⟩⟩, he⟩ := getP hlt
    have m1 := List.mem_of_getElem? he
    have hwo := hwf _ m1
    have ho := hv.2 _ m1
    simp only at hwo ho
    obtain ⟨xa, xc, hx⟩ := ho.len
    subst hx
    obtain ⟨ga, o1, rfl, hg, hc⟩ := hat i _ (i : Int) he rfl
    have cA : ∀ (j : Nat) z, [.bool gone, S o.k, S o.s, S o.n, I o.ver, S o.c, .bool o.tm, .bool o.bs, .slice xa o.rs.length xc][j]? = some z → w.cell? ⟨ga, o1 + (i : Int).toNat * 9 + j, none⟩ = some z := hc
    have cG : w.cell? ⟨ga, o1 + (i : Int).toNat * 9 + 0, none⟩ = some (.bool gone) := hc 0 _ rfl
    have cO : ∀ (j : Nat) z, [S o.k, S o.s, S o.n, I o.ver, S o.c, .bool o.tm, .bool o.bs, .slice xa o.rs.length xc][j]? = some z → w.cell? ⟨ga, o1 + (i : Int).toNat * 9 + 1 + j, none⟩ = some z := fun j z hj => by
      rw [show o1 + (i : Int).toNat * 9 + 1 + j = o1 + (i : Int).toNat * 9 + (j + 1) by omega]
      exact hc (j + 1) z hj
    have cK : ∀ (j : Nat) z, [S o.k, S o.s, S o.n][j]? = some z → w.cell? ⟨ga, o1 + (i : Int).toNat * 9 + 1 + 0 + j, none⟩ = some z := fun j z hj => by
      rw [show o1 + (i : Int).toNat * 9 + 1 + 0 + j = o1 + (i : Int).toNat * 9 + (j + 1) by omega]
      exact hc (j + 1) z (by
        rcases j with _ | _ | _ | j
        · exact hj
        · exact hj
        · exact hj
        · simp at hj)
    have hle := wrs_len hwr
    have hdo := fun m R => sdo_ok (m := m) (w0 := w) hL hF gone o (.slice xa o.rs.length xc) hwo ho R
    have hF2 := fit_do hF (by omega) gone (o := o) hwo
    have hln2 := do_len lg gone o
    have hrp := fun m R => rput9_ok (m := m) hR (hwr ▸ hF.wl) (by omega) o (.slice xa o.rs.length xc) hwo ho R
    have hrd := fun m R => rdel9_ok (m := m) hR (hwr ▸ hF.wl) (by omega) (keyO o) ⟨hwo.1, hwo.2.1, hwo.2.2.1⟩ R
    rw [hwr] at hrp hrd
    cases gone
    · rw [show doL lg false o = putL lg o from rfl] at hdo hF2 hln2
      generalize putL lg o = X at hdo hrp hF2 hln2
      obtain ⟨n, er, lg2⟩ := X
      simp only at hdo hF2 hln2
      unfold Wrote at hrp
      simp only at hrp
      repeat' (first | refine aw_seq ?_ | ((first | apply ao_val | apply aq_val); exact wants_a; (first | exact ov_nilcheck rfl | exact ov_load_oa rfl hg cA rfl | exact ov_load_oa rfl hg cO rfl | exact ov_load_oa rfl hg cK rfl | exact ov_a); (exact rfl)) | refine zy ?_ | refine zon fun _ => ?_ | refine zoa fun vr lr hr => ?_ | ((apply ao_callH (l := l); exact wants_a; (exact oc_func rfl); (exact rfl); (exact Cut.skipA lm Cut.here); (exact hdo _ _); rintro _ _ ⟨l2, rfl, rfl, hL2⟩)) | ((apply ao_callH (l := lm); exact wants_a; (exact oc_func rfl); (exact rfl); (exact Cut.skipA l2 Cut.here); (exact hrp _ _); rintro _ _ ⟨es2, lm2, rfl, rfl, hR2, hwr2, hle2⟩)) | refine zoS (fun _ => ?_) (fun _ => ?_) | refine zqS (fun _ => ?_) (fun _ => ?_) | refine zwS (fun _ => ?_) (fun _ => ?_))
      obtain ⟨q, ya, yc, b, hgv, hgb, hry, hwq⟩ := gets_ok hwr2 hF2 hR2.ok (keyO o)
      obtain ⟨hok2, vm, lvm, hlm, hlvm⟩ := hR2
      obtain ⟨am, cm, hvm⟩ := hlvm.len
      subst hvm hlm
      have hwe2 : ∀ e ∈ es2, wfS e.p.2 := fun e he => (hok2 e he).wf
      have hlen2 := wrs_len hwr2
      have hge := fun w' (hl : Lies w' l2) => sget_ok hL2 hF2 (keyO o) w' hl
      have hve := fun w' (hl : Lies w' l2) => sver_ok hL2 hF2 w' hl
      have hsn := fun w' (hl : Lies w' l2) => ssnap_ok hL2 hF2 w' hl
      simp only [hgb] at hge
      have hrg := fun w' (h : StAt w' gm (.slice am es2.length cm) es2) => rget9_ok gm _ es2 (keyO o) hwe2 (by omega) w' h
      have hrs := fun w' (h : StAt w' gm (.slice am es2.length cm) es2) => rsnap9_ok gm _ es2 hwe2 (by omega) w' h
      rw [hgv] at hrg
      have hs17 := fun w' (hb : Below w.heap.size w w') {v15 : Value} (h : OldRow w' 2 v15 q.rs.length (rcells q.rs)) => Ojt.rsame_ok q q v15 (.slice ya q.rs.length yc) hwq.wfO hwq.wfO w' h (hry.below hb)
      rw [same_eq, decide_eq_true rfl] at hs17
      have hP : obs (sortP (lastP es2 es2.length)) = osL lg2 := by rw [last_os (hwr2 ▸ hF2.wl) fun e he => (hok2 e he).kind, hwr2]
      have hresP : ∀ p ∈ sortP (lastP es2 es2.length), ResAt w p.1 p.2.rs := fun p hp => by
        obtain ⟨e, he, rfl⟩ := lastP_mem (sort_mem hp)
        exact (hok2 e he).res
      have hcl : ∀ o ∈ osL lg2, wfS o := fun o ho => by obtain ⟨e, he, rfl⟩ := osL_from ho; exact hF2.wf e he
      have hlo2 := (osL_all hF2.wl).2.2
      have hfl2 := hF2.len
      generalize sortP (lastP es2 es2.length) = P at hrs hP hresP
      repeat' (first | refine aw_seq ?_ | ((first | apply ao_val | apply aq_val); exact wants_a; (first | exact ov_nilcheck rfl | exact ov_load_oa rfl hg cK rfl | exact ov_a); (exact rfl)) | refine zy ?_ | refine zon fun _ => ?_ | refine zoa fun vr lr hr => ?_ | ((first | apply ao_call | apply aq_call); exact wants_a; (first | exact oc_func rfl | exact oc_clos rfl rfl); (exact rfl); (first | exact fun w hw => hrg w (stAt_of hw has_a hlvm cut_a hok2) | exact fun w hw => hs17 w hw.below (hw.oldr r15 cut_a))) | ((apply ao_callrg; exact wants_a; (exact oc_func rfl); (exact rfl); (intro w hw; exact hge w (lies_of hw (l := l2) cut_a)); intro v15 l15 r15; obtain ⟨a15, c15, hz15⟩ := r15.len; subst hz15)) | ((apply ao_callD; exact wants_a; (exact oc_func rfl); (exact rfl); (intro w hw; exact hsn w (lies_of hw (l := l2) cut_a)); rintro _ _ ⟨x5, u5, lx, lv, rfl, rfl, hx5, hd5⟩; obtain ⟨a5, c5, hz5⟩ := hx5.len; subst hz5; obtain ⟨ps5, l5, ls5, hob5, hlv5, hrow5, hpar5⟩ := hd5; obtain ⟨b5, d5, hu5⟩ := hrow5.len; subst hu5 hlv5)) | ((apply ao_callrg; exact wants_a; (exact oc_func rfl); (exact rfl); (intro w hw; exact hrs w (stAt_of hw has_a hlvm cut_a hok2)); intro v7 l7 r7; obtain ⟨a7, c7, hz7⟩ := r7.len; subst hz7)) | refine zoS (fun _ => ?_) (fun _ => ?_) | refine zqS (fun _ => ?_) (fun _ => ?_) | refine zwS (fun _ => ?_) (fun _ => ?_))
      have hsm : ∀ {H R1 R2 : Hp} (w' : World), RepH ⟨w.heap.size, w, Try.f3.ntmps⟩ H w' → Cut H (lx ++ (l5 ++ ls5)) R1 → Cut H l7 R2 → Calls Try.prog 15 #[EV 2 (.slice a5 zO.rs.length c5, zO) lg2.length (.slice b5 ps5.length d5), EV 2 (.slice none 0 0, zO) es2.length (.slice a7 P.length c7)] w' fun e w'' => e = .returned (.bool true) ∧ Below w'.heap.size w' w'' := fun {H R1 R2} w' hw c1 c2 => by
        have hlp : ps5.length = (osL lg2).length := by rw [← hob5, obs_len]
        have hlP : P.length = (osL lg2).length := by rw [← hP, obs_len]
        have := Evt.rsame_ok 2 (.slice a5 zO.rs.length c5, zO) lg2.length (.slice b5 ps5.length d5) ps5 2 (.slice none 0 0, zO) es2.length (.slice a7 P.length c7) P (by simp [wfS, wfR]) ⟨by omega, fun p hp => hcl p.2 (by rw [← hob5]; exact List.mem_map.2 ⟨p, hp, rfl⟩)⟩ (by simp [wfS, wfR]) ⟨by omega, fun p hp => hcl p.2 (by rw [← hP]; exact List.mem_map.2 ⟨p, hp, rfl⟩)⟩ w' (hw.oldr hx5 c1.fst) (objs_at hw hrow5 hpar5 c1.snd) OldRow.nil ⟨hw.oldr r7 c2, fun p hp => (hresP p hp).below hw.below⟩
        rwa [show sameE 2 zO lg2.length ps5 2 zO es2.length P = true by unfold sameE; rw [hob5, hP, hlen2]; simp] at this
      repeat' (first | (apply ao_nilh; exact hsub_a) | apply ao_nil | apply aq_nil | apply ah_end | ((first | apply ao_val | apply aq_val | (apply ah_take; (exact rfl))); exact wants_a; (first | exact ov_nilcheck rfl | exact ov_a); (exact rfl)) | ((first | apply ao_skip | apply aq_skip | (apply ah_skip; (exact rfl))); exact nots_a; (exact rfl)) | (refine ao_is ?_; first | (apply ao_new; exact wants_a; exact on_a; (exact rfl); intro _) | (apply ao_store; exact wants_a; exact ow_a; exact upd_a) | (apply ao_valw; exact wants_a; exact ox_a; (exact rfl); exact upd_a) | (apply ao_skip0; exact nots_a) | (apply ao_append; exact wants_a; (exact rfl); assumption; (exact rfl); exact cut_a; exact has_a; (exact rfl); (exact rfl); omega; omega; omega; (exact rfl); intro vr lr hr)) | ((first | apply ao_call | apply aq_call); exact wants_a; (first | exact oc_func rfl | exact oc_clos rfl rfl); (exact rfl); (first | exact fun w hw => hsm w hw cut_a cut_a | exact fun w hw => hve w (lies_of hw (l := l2) cut_a))) | (apply ah_one; (exact rfl)) | (apply ah_two; (exact rfl); (exact rfl)) | (apply ah_three; (exact rfl); (exact rfl); (exact rfl)) | (refine aw_is ?_; first | (apply aw_held (id := 19) (pl := (.t 0 (.t 1 (.t 2 (.t 3 (.t 4 (.t 5 (.t 6 (.t 7 (.t 8 (.t 9 (.t 10 (.t 11 (.t 12 (.t 13 (.t 14 (.t 15 (.t 16 (.t 17 (.t 18 (.t 19 (.t 20 (.t 21 (.t 22 (.t 24 (.t 25 (.t 26 (.t 27 (.w 23 (.o 28 (.t 29 (.t 30 .e))) 28 (.o 23 (.t 29 (.t 30 .e)))))))))))))))))))))))))))))))); (kernel_rfl); (kernel_rfl); (kernel_rfl); (solve | (exact List.Sublist.refl _))) | refine aw_seq ?_ | refine aw_block ?_ | refine aw_region ?_ | refine aw_skip ?_ | refine aw_exit ?_ | refine aw_ret ?_ | refine aw_label ?_ | refine aw_scope ?_ | refine aw_cond_t rfl (by with_reducible rfl) ?_ | refine aw_cond_f rfl (by with_reducible rfl) ?_ | refine aw_draw (by kernel_rfl) (by kernel_rfl) ?_) | (first | (refine ah_is ?_; (fail_if_success first | refine ah_glit (b := true) rfl rfl rfl (by with_reducible rfl) ?_ | refine ah_glit (b := false) rfl rfl rfl (by with_reducible rfl) ?_); apply ah_gt; (exact rfl); (exact rfl); (exact rfl); exact t_a) | ((refine ao_is ?_; (fail_if_success first | refine ao_glit (b := true) rfl rfl (by with_reducible rfl) ?_ | refine ao_glit (b := false) rfl rfl (by with_reducible rfl) ?_)); apply ao_gt; (exact rfl); (exact rfl); exact t_a) | ((refine aq_is ?_; (fail_if_success first | refine aq_glit (b := true) rfl rfl (by with_reducible rfl) ?_ | refine aq_glit (b := false) rfl rfl (by with_reducible rfl) ?_)); apply aq_gt; (exact rfl); (exact rfl); exact t_a) | (apply aw_ct; (exact rfl); exact t_a)) | (first | (refine ah_is ?_; (fail_if_success first | refine ah_glit (b := true) rfl rfl rfl (by with_reducible rfl) ?_ | refine ah_glit (b := false) rfl rfl rfl (by with_reducible rfl) ?_); apply ah_gf; (exact rfl); (exact rfl); (exact rfl); exact f_a) | ((refine ao_is ?_; (fail_if_success first | refine ao_glit (b := true) rfl rfl (by with_reducible rfl) ?_ | refine ao_glit (b := false) rfl rfl (by with_reducible rfl) ?_)); apply ao_gf; (exact rfl); (exact rfl); exact f_a) | ((refine aq_is ?_; (fail_if_success first | refine aq_glit (b := true) rfl rfl (by with_reducible rfl) ?_ | refine aq_glit (b := false) rfl rfl (by with_reducible rfl) ?_)); apply aq_gf; (exact rfl); (exact rfl); exact f_a) | (apply aw_cf; (exact rfl); exact f_a)) | refine at_normal ?_ | refine at_exit ?_ | refine at_ret ?_ | refine ib_normal ?_ | refine ib_exit ?_ | refine ib_other ?_ | refine ib_ret ?_ | refine lq_exit ?_ | refine lq_ret ?_ | refine ci_ret ?_ | refine ci_exit ?_ | refine r1_ret rfl ?_ | refine r1_normal rfl ?_ | refine r2_ret rfl rfl ?_ | refine r2_normal rfl rfl ?_ | refine r3_ret rfl rfl rfl ?_ | refine r3_normal rfl rfl rfl ?_ | refine ng_normal ?_ | refine ng_exit ?_ | refine ng_ret ?_ | (apply rt_ret; (exact rfl); (exact rfl); (exact rfl); exact has_a; exact has_a; (exact rfl); (exact rfl)) | (apply rc1_ret; (exact rfl); exact has_a; (exact rfl)) | (apply rc2_ret; (exact rfl); exact has_a; (exact rfl); (exact rfl)) | (refine ao_is ?_; (fail_if_success first | refine ao_glit (b := true) rfl rfl (by with_reducible rfl) ?_ | refine ao_glit (b := false) rfl rfl (by with_reducible rfl) ?_); refine ao_gbool rfl rfl (fun _ => ?_) (fun _ => ?_)) | (refine aq_is ?_; (fail_if_success first | refine aq_glit (b := true) rfl rfl (by with_reducible rfl) ?_ | refine aq_glit (b := false) rfl rfl (by with_reducible rfl) ?_); refine aq_gbool rfl rfl (fun _ => ?_) (fun _ => ?_)) | (refine aw_is ?_; refine aw_cond rfl (fun _ => ?_) (fun _ => ?_)))
      all_goals exact lq_normal' (H' := ((gm, .cells #[.slice am es2.length cm] 30 (0, 0)) :: lvm) ++ (l2 ++ [])) ⟨i + 1, gm, es2, lg2, l2, _, rfl, by omega, hL2, hF2, ⟨hok2, _, lvm, rfl, hlvm⟩, hwr2, by omega, rfl, rfl⟩ (by omega) (by repeat (first | exact sub_nil | refine sub_cons rfl ?_)) (by rw [List.cons_append]; exact hsub_a)
    · rw [show doL lg true o = delL lg (keyO o) from rfl] at hdo hF2 hln2
      generalize delL lg (keyO o) = X at hdo hrd hF2 hln2
      obtain ⟨n, er, lg2⟩ := X
      simp only at hdo hF2 hln2
      unfold Wrote at hrd
      simp only at hrd
      repeat' (first | refine aw_seq ?_ | ((first | apply ao_val | apply aq_val); exact wants_a; (first | exact ov_nilcheck rfl | exact ov_load_oa rfl hg cA rfl | exact ov_load_oa rfl hg cO rfl | exact ov_load_oa rfl hg cK rfl | exact ov_a); (exact rfl)) | refine zy ?_ | refine zon fun _ => ?_ | refine zoa fun vr lr hr => ?_ | ((apply ao_callH (l := l); exact wants_a; (exact oc_func rfl); (exact rfl); (exact Cut.skipA lm Cut.here); (exact hdo _ _); rintro _ _ ⟨l2, rfl, rfl, hL2⟩)) | ((apply ao_callH (l := lm); exact wants_a; (exact oc_func rfl); (exact rfl); (exact Cut.skipA l2 Cut.here); (exact hrd _ _); rintro _ _ ⟨es2, lm2, rfl, rfl, hR2, hwr2, hle2⟩)) | refine zoS (fun _ => ?_) (fun _ => ?_) | refine zqS (fun _ => ?_) (fun _ => ?_) | refine zwS (fun _ => ?_) (fun _ => ?_))
      obtain ⟨q, ya, yc, b, hgv, hgb, hry, hwq⟩ := gets_ok hwr2 hF2 hR2.ok (keyO o)
      obtain ⟨hok2, vm, lvm, hlm, hlvm⟩ := hR2
      obtain ⟨am, cm, hvm⟩ := hlvm.len
      subst hvm hlm
      have hwe2 : ∀ e ∈ es2, wfS e.p.2 := fun e he => (hok2 e he).wf
      have hlen2 := wrs_len hwr2
      have hge := fun w' (hl : Lies w' l2) => sget_ok hL2 hF2 (keyO o) w' hl
      have hve := fun w' (hl : Lies w' l2) => sver_ok hL2 hF2 w' hl
      have hsn := fun w' (hl : Lies w' l2) => ssnap_ok hL2 hF2 w' hl
      simp only [hgb] at hge
      have hrg := fun w' (h : StAt w' gm (.slice am es2.length cm) es2) => rget9_ok gm _ es2 (keyO o) hwe2 (by omega) w' h
      have hrs := fun w' (h : StAt w' gm (.slice am es2.length cm) es2) => rsnap9_ok gm _ es2 hwe2 (by omega) w' h
      rw [hgv] at hrg
      have hs17 := fun w' (hb : Below w.heap.size w w') {v15 : Value} (h : OldRow w' 2 v15 q.rs.length (rcells q.rs)) => Ojt.rsame_ok q q v15 (.slice ya q.rs.length yc) hwq.wfO hwq.wfO w' h (hry.below hb)
      rw [same_eq, decide_eq_true rfl] at hs17
      have hP : obs (sortP (lastP es2 es2.length)) = osL lg2 := by rw [last_os (hwr2 ▸ hF2.wl) fun e he => (hok2 e he).kind, hwr2]
      have hresP : ∀ p ∈ sortP (lastP es2 es2.length), ResAt w p.1 p.2.rs := fun p hp => by
        obtain ⟨e, he, rfl⟩ := lastP_mem (sort_mem hp)
        exact (hok2 e he).res
      have hcl : ∀ o ∈ osL lg2, wfS o := fun o ho => by obtain ⟨e, he, rfl⟩ := osL_from ho; exact hF2.wf e he
      have hlo2 := (osL_all hF2.wl).2.2
      have hfl2 := hF2.len
      generalize sortP (lastP es2 es2.length) = P at hrs hP hresP
      repeat' (first | refine aw_seq ?_ | ((first | apply ao_val | apply aq_val); exact wants_a; (first | exact ov_nilcheck rfl | exact ov_load_oa rfl hg cK rfl | exact ov_a); (exact rfl)) | refine zy ?_ | refine zon fun _ => ?_ | refine zoa fun vr lr hr => ?_ | ((first | apply ao_call | apply aq_call); exact wants_a; (first | exact oc_func rfl | exact oc_clos rfl rfl); (exact rfl); (first | exact fun w hw => hrg w (stAt_of hw has_a hlvm cut_a hok2) | exact fun w hw => hs17 w hw.below (hw.oldr r15 cut_a))) | ((apply ao_callrg; exact wants_a; (exact oc_func rfl); (exact rfl); (intro w hw; exact hge w (lies_of hw (l := l2) cut_a)); intro v15 l15 r15; obtain ⟨a15, c15, hz15⟩ := r15.len; subst hz15)) | ((apply ao_callD; exact wants_a; (exact oc_func rfl); (exact rfl); (intro w hw; exact hsn w (lies_of hw (l := l2) cut_a)); rintro _ _ ⟨x5, u5, lx, lv, rfl, rfl, hx5, hd5⟩; obtain ⟨a5, c5, hz5⟩ := hx5.len; subst hz5; obtain ⟨ps5, l5, ls5, hob5, hlv5, hrow5, hpar5⟩ := hd5; obtain ⟨b5, d5, hu5⟩ := hrow5.len; subst hu5 hlv5)) | ((apply ao_callrg; exact wants_a; (exact oc_func rfl); (exact rfl); (intro w hw; exact hrs w (stAt_of hw has_a hlvm cut_a hok2)); intro v7 l7 r7; obtain ⟨a7, c7, hz7⟩ := r7.len; subst hz7)) | refine zoS (fun _ => ?_) (fun _ => ?_) | refine zqS (fun _ => ?_) (fun _ => ?_) | refine zwS (fun _ => ?_) (fun _ => ?_))
      have hsm : ∀ {H R1 R2 : Hp} (w' : World), RepH ⟨w.heap.size, w, Try.f3.ntmps⟩ H w' → Cut H (lx ++ (l5 ++ ls5)) R1 → Cut H l7 R2 → Calls Try.prog 15 #[EV 2 (.slice a5 zO.rs.length c5, zO) lg2.length (.slice b5 ps5.length d5), EV 2 (.slice none 0 0, zO) es2.length (.slice a7 P.length c7)] w' fun e w'' => e = .returned (.bool true) ∧ Below w'.heap.size w' w'' := fun {H R1 R2} w' hw c1 c2 => by
        have hlp : ps5.length = (osL lg2).length := by rw [← hob5, obs_len]
        have hlP : P.length = (osL lg2).length := by rw [← hP, obs_len]
        have := Evt.rsame_ok 2 (.slice a5 zO.rs.length c5, zO) lg2.length (.slice b5 ps5.length d5) ps5 2 (.slice none 0 0, zO) es2.length (.slice a7 P.length c7) P (by simp [wfS, wfR]) ⟨by omega, fun p hp => hcl p.2 (by rw [← hob5]; exact List.mem_map.2 ⟨p, hp, rfl⟩)⟩ (by simp [wfS, wfR]) ⟨by omega, fun p hp => hcl p.2 (by rw [← hP]; exact List.mem_map.2 ⟨p, hp, rfl⟩)⟩ w' (hw.oldr hx5 c1.fst) (objs_at hw hrow5 hpar5 c1.snd) OldRow.nil ⟨hw.oldr r7 c2, fun p hp => (hresP p hp).below hw.below⟩
        rwa [show sameE 2 zO lg2.length ps5 2 zO es2.length P = true by unfold sameE; rw [hob5, hP, hlen2]; simp] at this
      repeat' (first | (apply ao_nilh; exact hsub_a) | apply ao_nil | apply aq_nil | apply ah_end | ((first | apply ao_val | apply aq_val | (apply ah_take; (exact rfl))); exact wants_a; (first | exact ov_nilcheck rfl | exact ov_a); (exact rfl)) | ((first | apply ao_skip | apply aq_skip | (apply ah_skip; (exact rfl))); exact nots_a; (exact rfl)) | (refine ao_is ?_; first | (apply ao_new; exact wants_a; exact on_a; (exact rfl); intro _) | (apply ao_store; exact wants_a; exact ow_a; exact upd_a) | (apply ao_valw; exact wants_a; exact ox_a; (exact rfl); exact upd_a) | (apply ao_skip0; exact nots_a) | (apply ao_append; exact wants_a; (exact rfl); assumption; (exact rfl); exact cut_a; exact has_a; (exact rfl); (exact rfl); omega; omega; omega; (exact rfl); intro vr lr hr)) | ((first | apply ao_call | apply aq_call); exact wants_a; (first | exact oc_func rfl | exact oc_clos rfl rfl); (exact rfl); (first | exact fun w hw => hsm w hw cut_a cut_a | exact fun w hw => hve w (lies_of hw (l := l2) cut_a))) | (apply ah_one; (exact rfl)) | (apply ah_two; (exact rfl); (exact rfl)) | (apply ah_three; (exact rfl); (exact rfl); (exact rfl)) | (refine aw_is ?_; first | (apply aw_held (id := 19) (pl := (.t 0 (.t 1 (.t 2 (.t 3 (.t 4 (.t 5 (.t 6 (.t 7 (.t 8 (.t 9 (.t 10 (.t 11 (.t 12 (.t 13 (.t 14 (.t 15 (.t 16 (.t 17 (.t 18 (.t 19 (.t 20 (.t 21 (.t 22 (.t 24 (.t 25 (.t 26 (.t 27 (.w 23 (.o 28 (.t 29 (.t 30 .e))) 28 (.o 23 (.t 29 (.t 30 .e)))))))))))))))))))))))))))))))); (kernel_rfl); (kernel_rfl); (kernel_rfl); (solve | (exact List.Sublist.refl _))) | refine aw_seq ?_ | refine aw_block ?_ | refine aw_region ?_ | refine aw_skip ?_ | refine aw_exit ?_ | refine aw_ret ?_ | refine aw_label ?_ | refine aw_scope ?_ | refine aw_cond_t rfl (by with_reducible rfl) ?_ | refine aw_cond_f rfl (by with_reducible rfl) ?_ | refine aw_draw (by kernel_rfl) (by kernel_rfl) ?_) | (first | (refine ah_is ?_; (fail_if_success first | refine ah_glit (b := true) rfl rfl rfl (by with_reducible rfl) ?_ | refine ah_glit (b := false) rfl rfl rfl (by with_reducible rfl) ?_); apply ah_gt; (exact rfl); (exact rfl); (exact rfl); exact t_a) | ((refine ao_is ?_; (fail_if_success first | refine ao_glit (b := true) rfl rfl (by with_reducible rfl) ?_ | refine ao_glit (b := false) rfl rfl (by with_reducible rfl) ?_)); apply ao_gt; (exact rfl); (exact rfl); exact t_a) | ((refine aq_is ?_; (fail_if_success first | refine aq_glit (b := true) rfl rfl (by with_reducible rfl) ?_ | refine aq_glit (b := false) rfl rfl (by with_reducible rfl) ?_)); apply aq_gt; (exact rfl); (exact rfl); exact t_a) | (apply aw_ct; (exact rfl); exact t_a)) | (first | (refine ah_is ?_; (fail_if_success first | refine ah_glit (b := true) rfl rfl rfl (by with_reducible rfl) ?_ | refine ah_glit (b := false) rfl rfl rfl (by with_reducible rfl) ?_); apply ah_gf; (exact rfl); (exact rfl); (exact rfl); exact f_a) | ((refine ao_is ?_; (fail_if_success first | refine ao_glit (b := true) rfl rfl (by with_reducible rfl) ?_ | refine ao_glit (b := false) rfl rfl (by with_reducible rfl) ?_)); apply ao_gf; (exact rfl); (exact rfl); exact f_a) | ((refine aq_is ?_; (fail_if_success first | refine aq_glit (b := true) rfl rfl (by with_reducible rfl) ?_ | refine aq_glit (b := false) rfl rfl (by with_reducible rfl) ?_)); apply aq_gf; (exact rfl); (exact rfl); exact f_a) | (apply aw_cf; (exact rfl); exact f_a)) | refine at_normal ?_ | refine at_exit ?_ | refine at_ret ?_ | refine ib_normal ?_ | refine ib_exit ?_ | refine ib_other ?_ | refine ib_ret ?_ | refine lq_exit ?_ | refine lq_ret ?_ | refine ci_ret ?_ | refine ci_exit ?_ | refine r1_ret rfl ?_ | refine r1_normal rfl ?_ | refine r2_ret rfl rfl ?_ | refine r2_normal rfl rfl ?_ | refine r3_ret rfl rfl rfl ?_ | refine r3_normal rfl rfl rfl ?_ | refine ng_normal ?_ | refine ng_exit ?_ | refine ng_ret ?_ | (apply rt_ret; (exact rfl); (exact rfl); (exact rfl); exact has_a; exact has_a; (exact rfl); (exact rfl)) | (apply rc1_ret; (exact rfl); exact has_a; (exact rfl)) | (apply rc2_ret; (exact rfl); exact has_a; (exact rfl); (exact rfl)) | (refine ao_is ?_; (fail_if_success first | refine ao_glit (b := true) rfl rfl (by with_reducible rfl) ?_ | refine ao_glit (b := false) rfl rfl (by with_reducible rfl) ?_); refine ao_gbool rfl rfl (fun _ => ?_) (fun _ => ?_)) | (refine aq_is ?_; (fail_if_success first | refine aq_glit (b := true) rfl rfl (by with_reducible rfl) ?_ | refine aq_glit (b := false) rfl rfl (by with_reducible rfl) ?_); refine aq_gbool rfl rfl (fun _ => ?_) (fun _ => ?_)) | (refine aw_is ?_; refine aw_cond rfl (fun _ => ?_) (fun _ => ?_)))
      all_goals exact lq_normal' (H' := ((gm, .cells #[.slice am es2.length cm] 30 (0, 0)) :: lvm) ++ (l2 ++ [])) ⟨i + 1, gm, es2, lg2, l2, _, rfl, by omega, hL2, hF2, ⟨hok2, _, lvm, rfl, hlvm⟩, hwr2, by omega, rfl, rfl⟩ (by omega) (by repeat (first | exact sub_nil | refine sub_cons rfl ?_)) (by rw [List.cons_append]; exact hsub_a)
  · obtain rfl : i = ws.length := by omega
    obtain ⟨hok, vm, lvm, hlm, hlvm⟩ := hR
    obtain ⟨am, cm, hvm⟩ := hlvm.len
    subst hvm hlm
    have hle := wrs_len hwr
    have hfl := hF.len
    have hlo := fun w' (hl : Lies w' l) => slog_ok hL hF w' hl
    have h0 := fun w' => sput0_ok zO (.slice none 0 0) (by simp [wfS, wfR]) w' OldRow.nil
    have h1 := fun w' => sdel0_ok k0 w'
    have h2 := fun w' => sget0_ok k0 w'
    have h5 := fun w' => Evt.rsame_ok 0 (.slice none 0 0, zO) 0 (.slice none 0 0) [] 0 (.slice none 0 0, zO) 0 (.slice none 0 0) [] (by simp [wfS, wfR]) ⟨by simp, fun p hp => by cases hp⟩ (by simp [wfS, wfR]) ⟨by simp, fun p hp => by cases hp⟩ w' OldRow.nil ⟨OldRow.nil, fun p hp => by cases hp⟩ OldRow.nil ⟨OldRow.nil, fun p hp => by cases hp⟩
    rw [show sameE 0 zO 0 [] 0 zO 0 [] = true by simp [sameE]] at h5
    repeat' (first | (apply ao_nilh; exact hsub_a) | apply ao_nil | apply aq_nil | apply ah_end | ((first | apply ao_val | apply aq_val | (apply ah_take; (exact rfl))); exact wants_a; (first | exact ov_nilcheck rfl | exact ov_a); (exact rfl)) | ((first | apply ao_skip | apply aq_skip | (apply ah_skip; (exact rfl))); exact nots_a; (exact rfl)) | (refine ao_is ?_; first | (apply ao_new; exact wants_a; exact on_a; (exact rfl); intro _) | (apply ao_store; exact wants_a; exact ow_a; exact upd_a) | (apply ao_valw; exact wants_a; exact ox_a; (exact rfl); exact upd_a) | (apply ao_skip0; exact nots_a) | (apply ao_append; exact wants_a; (exact rfl); assumption; (exact rfl); exact cut_a; exact has_a; (exact rfl); (exact rfl); omega; omega; omega; (exact rfl); intro vr lr hr)) | ((apply ao_callD; exact wants_a; (exact oc_func rfl); (exact rfl); (intro w hw; exact hlo w (lies_of hw (l := l) cut_a)); rintro v9 _ ⟨es9, l0, ls, hwr9, hes, rfl, hrow, hparts⟩; obtain ⟨a9, c9, hv9⟩ := hrow.len; subst hv9)) | (apply ah_one; (exact rfl)) | (apply ah_two; (exact rfl); (exact rfl)) | (apply ah_three; (exact rfl); (exact rfl); (exact rfl)) | (refine aw_is ?_; first | (apply aw_held (id := 21) (pl := (.t 0 (.t 2 (.t 3 (.t 4 (.t 5 (.o 1 (.o 6 (.t 7 .e))))))))); (kernel_rfl); (kernel_rfl); (kernel_rfl); (solve | (exact List.Sublist.refl _))) | refine aw_seq ?_ | refine aw_block ?_ | refine aw_region ?_ | refine aw_skip ?_ | refine aw_exit ?_ | refine aw_ret ?_ | refine aw_label ?_ | refine aw_scope ?_ | refine aw_cond_t rfl (by with_reducible rfl) ?_ | refine aw_cond_f rfl (by with_reducible rfl) ?_ | refine aw_draw (by kernel_rfl) (by kernel_rfl) ?_) | (first | (refine ah_is ?_; (fail_if_success first | refine ah_glit (b := true) rfl rfl rfl (by with_reducible rfl) ?_ | refine ah_glit (b := false) rfl rfl rfl (by with_reducible rfl) ?_); apply ah_gt; (exact rfl); (exact rfl); (exact rfl); exact t_a) | ((refine ao_is ?_; (fail_if_success first | refine ao_glit (b := true) rfl rfl (by with_reducible rfl) ?_ | refine ao_glit (b := false) rfl rfl (by with_reducible rfl) ?_)); apply ao_gt; (exact rfl); (exact rfl); exact t_a) | ((refine aq_is ?_; (fail_if_success first | refine aq_glit (b := true) rfl rfl (by with_reducible rfl) ?_ | refine aq_glit (b := false) rfl rfl (by with_reducible rfl) ?_)); apply aq_gt; (exact rfl); (exact rfl); exact t_a) | (apply aw_ct; (exact rfl); exact t_a)) | (first | (refine ah_is ?_; (fail_if_success first | refine ah_glit (b := true) rfl rfl rfl (by with_reducible rfl) ?_ | refine ah_glit (b := false) rfl rfl rfl (by with_reducible rfl) ?_); apply ah_gf; (exact rfl); (exact rfl); (exact rfl); exact f_a) | ((refine ao_is ?_; (fail_if_success first | refine ao_glit (b := true) rfl rfl (by with_reducible rfl) ?_ | refine ao_glit (b := false) rfl rfl (by with_reducible rfl) ?_)); apply ao_gf; (exact rfl); (exact rfl); exact f_a) | ((refine aq_is ?_; (fail_if_success first | refine aq_glit (b := true) rfl rfl (by with_reducible rfl) ?_ | refine aq_glit (b := false) rfl rfl (by with_reducible rfl) ?_)); apply aq_gf; (exact rfl); (exact rfl); exact f_a) | (apply aw_cf; (exact rfl); exact f_a)) | refine at_normal ?_ | refine at_exit ?_ | refine at_ret ?_ | refine ib_normal ?_ | refine ib_exit ?_ | refine ib_other ?_ | refine ib_ret ?_ | refine lq_exit ?_ | refine lq_ret ?_ | refine ci_ret ?_ | refine ci_exit ?_ | refine r1_ret rfl ?_ | refine r1_normal rfl ?_ | refine r2_ret rfl rfl ?_ | refine r2_normal rfl rfl ?_ | refine r3_ret rfl rfl rfl ?_ | refine r3_normal rfl rfl rfl ?_ | refine ng_normal ?_ | refine ng_exit ?_ | refine ng_ret ?_ | (apply rt_ret; (exact rfl); (exact rfl); (exact rfl); exact has_a; exact has_a; (exact rfl); (exact rfl)) | (apply rc1_ret; (exact rfl); exact has_a; (exact rfl)) | (apply rc2_ret; (exact rfl); exact has_a; (exact rfl); (exact rfl)) | (refine ao_is ?_; (fail_if_success first | refine ao_glit (b := true) rfl rfl (by with_reducible rfl) ?_ | refine ao_glit (b := false) rfl rfl (by with_reducible rfl) ?_); refine ao_gbool rfl rfl (fun _ => ?_) (fun _ => ?_)) | (refine aq_is ?_; (fail_if_success first | refine aq_glit (b := true) rfl rfl (by with_reducible rfl) ?_ | refine aq_glit (b := false) rfl rfl (by with_reducible rfl) ?_); refine aq_gbool rfl rfl (fun _ => ?_) (fun _ => ?_)) | (refine aw_is ?_; refine aw_cond rfl (fun _ => ?_) (fun _ => ?_)))
    have hlen9 := wrs_len hwr9
    have hwe : ∀ e ∈ es9, wfS e.p.2 ∧ wfL e.qs := fun e he => ⟨hF.wf (wrE e) (by rw [← hwr9]; exact List.mem_map.2 ⟨e, he, rfl⟩), by rw [(hes e he).2.2]; exact ⟨by simp, fun p hp => by cases hp⟩⟩
    have hwe2 : ∀ e ∈ es, wfS e.p.2 ∧ wfL e.qs := fun e he => ⟨(hok e he).wf, by rw [(hok e he).qs]; exact ⟨by simp, fun p hp => by cases hp⟩⟩
    have hone := logs_one (hwr9.trans hwr.symm) hes fun e he => ⟨(hok e he).kind, (hok e he).ver, (hok e he).qs⟩
    have hev : ∀ {H R1 R2 : Hp} (w' : World), RepH ⟨w.heap.size, w, Try.f3.ntmps⟩ H w' → Cut H (l0 ++ ls) R1 → Cut H lvm R2 → Calls Try.prog 19 #[.slice a9 es9.length c9, .slice am es.length cm] w' fun e w'' => e = .returned (.bool true) ∧ Below w'.heap.size w' w'' := fun {H R1 R2} w' hw c1 c2 =>
      rev9_ok _ _ es9 es hone hwe hwe2 (by omega) w' ⟨hw.oldr hrow c1.fst, fun e he => log_el hw hparts c1.snd he (hes e he).2.2⟩ (evs_old hw hlvm c2 hok)
    repeat' (first | (apply ao_nilh; exact hsub_a) | apply ao_nil | apply aq_nil | apply ah_end | ((first | apply ao_val | apply aq_val | (apply ah_take; (exact rfl))); exact wants_a; (first | exact ov_nilcheck rfl | exact ov_a); (exact rfl)) | ((first | apply ao_skip | apply aq_skip | (apply ah_skip; (exact rfl))); exact nots_a; (exact rfl)) | (refine ao_is ?_; first | (apply ao_new; exact wants_a; exact on_a; (exact rfl); intro _) | (apply ao_store; exact wants_a; exact ow_a; exact upd_a) | (apply ao_valw; exact wants_a; exact ox_a; (exact rfl); exact upd_a) | (apply ao_skip0; exact nots_a) | (apply ao_append; exact wants_a; (exact rfl); assumption; (exact rfl); exact cut_a; exact has_a; (exact rfl); (exact rfl); omega; omega; omega; (exact rfl); intro vr lr hr)) | ((first | apply ao_call | apply aq_call); exact wants_a; (first | exact oc_func rfl | exact oc_clos rfl rfl); (exact rfl); (first | exact fun w hw => hev w hw cut_a cut_a | exact fun w hw => h0 w | exact fun w hw => h1 w | exact fun w hw => h2 w | exact fun w hw => h5 w | exact fun w hw => sver0_ok w | exact fun w hw => slog0_ok w | exact fun w hw => ssnap0_ok w | exact fun w hw => salive_ok w)) | (apply ah_one; (exact rfl)) | (apply ah_two; (exact rfl); (exact rfl)) | (apply ah_three; (exact rfl); (exact rfl); (exact rfl)) | (refine aw_is ?_; first | (apply aw_held (id := 21) (pl := (.t 0 (.t 2 (.t 3 (.t 4 (.t 5 (.o 1 (.o 6 (.t 7 .e))))))))); (kernel_rfl); (kernel_rfl); (kernel_rfl); (solve | (exact List.Sublist.refl _))) | refine aw_seq ?_ | refine aw_block ?_ | refine aw_region ?_ | refine aw_skip ?_ | refine aw_exit ?_ | refine aw_ret ?_ | refine aw_label ?_ | refine aw_scope ?_ | refine aw_cond_t rfl (by with_reducible rfl) ?_ | refine aw_cond_f rfl (by with_reducible rfl) ?_ | refine aw_draw (by kernel_rfl) (by kernel_rfl) ?_) | (first | (refine ah_is ?_; (fail_if_success first | refine ah_glit (b := true) rfl rfl rfl (by with_reducible rfl) ?_ | refine ah_glit (b := false) rfl rfl rfl (by with_reducible rfl) ?_); apply ah_gt; (exact rfl); (exact rfl); (exact rfl); exact t_a) | ((refine ao_is ?_; (fail_if_success first | refine ao_glit (b := true) rfl rfl (by with_reducible rfl) ?_ | refine ao_glit (b := false) rfl rfl (by with_reducible rfl) ?_)); apply ao_gt; (exact rfl); (exact rfl); exact t_a) | ((refine aq_is ?_; (fail_if_success first | refine aq_glit (b := true) rfl rfl (by with_reducible rfl) ?_ | refine aq_glit (b := false) rfl rfl (by with_reducible rfl) ?_)); apply aq_gt; (exact rfl); (exact rfl); exact t_a) | (apply aw_ct; (exact rfl); exact t_a)) | (first | (refine ah_is ?_; (fail_if_success first | refine ah_glit (b := true) rfl rfl rfl (by with_reducible rfl) ?_ | refine ah_glit (b := false) rfl rfl rfl (by with_reducible rfl) ?_); apply ah_gf; (exact rfl); (exact rfl); (exact rfl); exact f_a) | ((refine ao_is ?_; (fail_if_success first | refine ao_glit (b := true) rfl rfl (by with_reducible rfl) ?_ | refine ao_glit (b := false) rfl rfl (by with_reducible rfl) ?_)); apply ao_gf; (exact rfl); (exact rfl); exact f_a) | ((refine aq_is ?_; (fail_if_success first | refine aq_glit (b := true) rfl rfl (by with_reducible rfl) ?_ | refine aq_glit (b := false) rfl rfl (by with_reducible rfl) ?_)); apply aq_gf; (exact rfl); (exact rfl); exact f_a) | (apply aw_cf; (exact rfl); exact f_a)) | refine at_normal ?_ | refine at_exit ?_ | refine at_ret ?_ | refine ib_normal ?_ | refine ib_exit ?_ | refine ib_other ?_ | refine ib_ret ?_ | refine lq_exit ?_ | refine lq_ret ?_ | refine ci_ret ?_ | refine ci_exit ?_ | refine r1_ret rfl ?_ | refine r1_normal rfl ?_ | refine r2_ret rfl rfl ?_ | refine r2_normal rfl rfl ?_ | refine r3_ret rfl rfl rfl ?_ | refine r3_normal rfl rfl rfl ?_ | refine ng_normal ?_ | refine ng_exit ?_ | refine ng_ret ?_ | (apply rt_ret; (exact rfl); (exact rfl); (exact rfl); exact has_a; exact has_a; (exact rfl); (exact rfl)) | (apply rc1_ret; (exact rfl); exact has_a; (exact rfl)) | (apply rc2_ret; (exact rfl); exact has_a; (exact rfl); (exact rfl)) | (refine ao_is ?_; (fail_if_success first | refine ao_glit (b := true) rfl rfl (by with_reducible rfl) ?_ | refine ao_glit (b := false) rfl rfl (by with_reducible rfl) ?_); refine ao_gbool rfl rfl (fun _ => ?_) (fun _ => ?_)) | (refine aq_is ?_; (fail_if_success first | refine aq_glit (b := true) rfl rfl (by with_reducible rfl) ?_ | refine aq_glit (b := false) rfl rfl (by with_reducible rfl) ?_); refine aq_gbool rfl rfl (fun _ => ?_) (fun _ => ?_)) | (refine aw_is ?_; refine aw_cond rfl (fun _ => ?_) (fun _ => ?_)))
    exact fun w' hw => ⟨rfl, hw.below⟩
end Stm
end Go.Proofs.Ytbllkmhkpapgeaa
