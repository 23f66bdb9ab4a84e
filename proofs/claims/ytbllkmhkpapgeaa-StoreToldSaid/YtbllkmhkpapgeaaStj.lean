/- The walk of StoreRises of layer 9; conditions: none. -/
import Derived.Test.YtbllkmhkpapgeaaSti
namespace Go.Proofs.Ytbllkmhkpapgeaa
namespace Stm
open Go Go.RowKit Sx Lab Vec Ojt Evt Chm
attribute [local irreducible] Go.Calls

theorem do_cases (lg : List Wr) (gone : Bool) (o : Ob) : (∃ er, er ≠ 0 ∧ doL lg gone o = (0, er, lg)) ∨
    (∃ o2, doL lg gone o = ((lg.length : Int) + 1, 0, lg ++ [(gone, o2)]) ∧ keyO o2 = keyO o ∧ o2.ver = (lg.length : Int) + 1 ∧ okW (gone, o2)) := by
  cases gone
  · rw [show doL lg false o = putL lg o from rfl]
    rcases put_cases lg o with ⟨-, e⟩ | ⟨-, -, -, e⟩ | ⟨h1, -, e⟩
    · exact .inl ⟨1, by decide, e⟩
    · exact .inl ⟨3, by decide, e⟩
    · exact .inr ⟨_, e, rfl, rfl, fun _ => right_ver1 h1 (by omega), fun h => by cases h⟩
  · rw [show doL lg true o = delL lg (keyO o) from rfl]
    rcases del_cases lg (keyO o) with ⟨-, e⟩ | ⟨-, -, e⟩ | ⟨h1, -, e⟩
    · exact .inl ⟨1, by decide, e⟩
    · exact .inl ⟨4, by decide, e⟩
    · exact .inr ⟨_, e, rfl, rfl, fun h => (by cases h), fun _ => ⟨h1, rfl⟩⟩
theorem get_do {lg : List Wr} {gone : Bool} {o2 : Ob} (h : WfL lg) (hk : okW (gone, o2)) : getO (osL (lg ++ [(gone, o2)])) (keyO o2) = if gone = true then none else some o2 := by
  have h1 := (osL_all h).1
  rw [osL_snoc]
  cases gone
  · rw [if_neg (by simp), if_neg (by simp), getO_wi h1 (hk.1 rfl), if_pos rfl]
  · rw [if_pos rfl, if_pos rfl, getO_wo h1.own, if_pos rfl]
theorem log_el {E : Env} {H R ls : Hp} {w : World} {es : List PE} {e : PE} (h : RepH E H w) (h4 : Parts KE ls es) (hc : Cut H ls R) (he : e ∈ es) (hq : e.qs = []) : ResAt w e.p.1 e.p.2.rs ∧ ObjsAt w e.v e.qs := by
  obtain ⟨l, R', hc2, l1, l2, rfl, k1, k2⟩ := h4.at he
  have hc3 := hc.trans hc2
  refine ⟨h.oldr k1 hc3.fst, ?_⟩
  rw [hq]
  exact ⟨h.oldr k2 hc3.snd, fun p hp => by cases hp⟩
theorem log_last {lg : List Wr} {x : Wr} {es : List PE} (h : wrs es = lg ++ [x]) : ∃ e, es[lg.length]? = some e ∧ wrE e = x ∧ es.length = lg.length + 1 := by
  have hl : es.length = lg.length + 1 := by have := congrArg List.length h; rw [List.length_append, List.length_singleton] at this; unfold wrs at this; rwa [List.length_map] at this
  obtain ⟨e, he⟩ := getP (show lg.length < es.length by omega)
  have h1 : (wrs es)[lg.length]? = some (wrE e) := by unfold wrs; rw [List.getElem?_map, he]; rfl
  rw [h, List.getElem?_append_right (Nat.le_refl _), Nat.sub_self] at h1
  exact ⟨e, he, (Option.some.inj h1).symm, hl⟩

theorem wrs_len {es : List PE} {lg : List Wr} (h : wrs es = lg) : es.length = lg.length := by rw [← h]; exact (List.length_map _).symm
set_option maxHeartbeats 64000000 in
theorem rises_ok (v : Value) (ws : List PW) (hn : ∀ e ∈ ws, numR e.2.2.rs) (w : World) (hv : WrAt w v ws) : Calls Try.prog 4 #[v] w fun e w' => e = .returned (.bool true) ∧ Below w.heap.size w w' := by
  have hfit := fun w' (hb : Below w.heap.size w w') => fits9_ok v ws w' (hv.below hb)
  obtain ⟨a, cp, rfl, hat⟩ := OldRow.cells cellsW_len hv.1
  refine calls1 (args := [.slice a ws.length cp]) Try.func4 rfl rfl rfl rfl ?_
  cases hq : fitWs ws
  · rw [hq] at hfit
    repeat' (first | refine aw_seq ?_ | refine zz ?_ | refine zon fun _ => ?_ | refine zoa fun vr lr hr => ?_ | ((first | apply ao_call | apply aq_call); exact wants_a; (first | exact oc_func rfl | exact oc_clos rfl rfl); (exact rfl); (first | exact fun w hw => hfit w hw.below | exact fun w hw => salive_ok w)) | refine zoS (fun _ => ?_) (fun _ => ?_) | refine zqS (fun _ => ?_) (fun _ => ?_) | refine zwS (fun _ => ?_) (fun _ => ?_))
    exact fun w' hw => ⟨rfl, hw.below⟩
  rw [hq] at hfit
  obtain ⟨h60, hwf⟩ := fitWs_wf hq hn
  repeat' (first | refine aw_seq ?_ | refine zz ?_ | refine zon fun _ => ?_ | refine zoa fun vr lr hr => ?_ | ((first | apply ao_call | apply aq_call); exact wants_a; (first | exact oc_func rfl | exact oc_clos rfl rfl); (exact rfl); (first | exact fun w hw => hfit w hw.below)) | ((apply ao_callD; exact wants_a; (exact oc_func rfl); (exact rfl); (intro w hw; exact snew_ok w); intro vr lr hr)) | refine zoS (fun _ => ?_) (fun _ => ?_) | refine zqS (fun _ => ?_) (fun _ => ?_) | refine zwS (fun _ => ?_) (fun _ => ?_))
  obtain ⟨g, hvr, hL⟩ := hr
  subst hvr
  refine aw_for (t0 := [(0, .slice a ws.length cp), (4, .pointer (some ⟨g, 0, none⟩)), (5, I (0 : Nat)), (6, I (0 : Nat))]) (fun q t H => ∃ (i : Nat) (lg : List Wr) (l : Hp) (n : Int), q = ws.length - i ∧ i ≤ ws.length ∧ LSt lg g l ∧ FitL lg ∧ lg.length ≤ i ∧ n = (lg.length : Int) ∧ t = [(0, .slice a ws.length cp), (4, .pointer (some ⟨g, 0, none⟩)), (5, I n), (6, I i)] ∧ H = l ++ [])
    ⟨0, [], lr, 0, rfl, by omega, hL, FitL.nil, Nat.le_refl _, rfl, rfl, rfl⟩ (by repeat (first | exact sub_nil | refine sub_cons rfl ?_)) ?_
  clear hL
  rintro q t H ⟨i, lg, l, n, rfl, hi, hL, hF, hlg, rfl, rfl, rfl⟩
  by_cases hlt : i < ws.length
  · obtain ⟨⟨gone, ⟨x, o⟩⟩, he⟩ := getP hlt
    have m1 := List.mem_of_getElem? he
    have hwo := hwf _ m1
    have ho := hv.2 _ m1
    simp only at hwo ho
    obtain ⟨xa, xc, hx⟩ := ho.len
    subst hx
    obtain ⟨ga, o1, rfl, hg, hc⟩ := hat i _ (i : Int) he rfl
    have cA : ∀ (j : Nat) z, [.bool gone, S o.k, S o.s, S o.n, I o.ver, S o.c, .bool o.tm, .bool o.bs, .slice xa o.rs.length xc][j]? = some z → w.cell? ⟨ga, o1 + (i : Int).toNat * 9 + j, none⟩ = some z := hc
    have cG : w.cell? ⟨ga, o1 + (i : Int).toNat * 9 + 0, none⟩ = some (.bool gone) := hc 0 _ rfl
    have cK : ∀ (j : Nat) z, [S o.k, S o.s, S o.n][j]? = some z → w.cell? ⟨ga, o1 + (i : Int).toNat * 9 + 1 + 0 + j, none⟩ = some z := fun j z hj => by
      rw [show o1 + (i : Int).toNat * 9 + 1 + 0 + j = o1 + (i : Int).toNat * 9 + (j + 1) by omega]
      exact hc (j + 1) z (by
        rcases j with _ | _ | _ | j
        · exact hj
        · exact hj
        · exact hj
        · simp at hj)
    have hdo := fun m R => sdo_ok (m := m) (w0 := w) hL hF gone o (.slice xa o.rs.length xc) hwo ho R
    have hF2 := fit_do hF (by omega) gone (o := o) hwo
    rcases do_cases lg gone o with ⟨er, h0, e1⟩ | ⟨o2, e1, hkey, hver, hok⟩
    · rw [e1] at hdo
      simp only at hdo
      repeat' (first | refine aw_seq ?_ | ((first | apply ao_val | apply aq_val); exact wants_a; (first | exact ov_load_oa rfl hg cA rfl | exact ov_a); (exact rfl)) | refine zy ?_ | refine zon fun _ => ?_ | refine zoa fun vr lr hr => ?_ | ((apply ao_callH (l := l); exact wants_a; (exact oc_func rfl); (exact rfl); (exact Cut.here); (exact hdo _ _); rintro _ _ ⟨l2, rfl, rfl, hL2⟩)) | refine zoS (fun _ => ?_) (fun _ => ?_) | refine zqS (fun _ => ?_) (fun _ => ?_) | refine zwS (fun _ => ?_) (fun _ => ?_))
      have hlo := fun w' (hl : Lies w' l2) => slog_ok hL2 hF w' hl
      have hve := fun w' (hl : Lies w' l2) => sver_ok hL2 hF w' hl
      repeat' (first | refine aw_seq ?_ | refine zz ?_ | refine zon fun _ => ?_ | refine zoa fun vr lr hr => ?_ | ((first | apply ao_call | apply aq_call); exact wants_a; (first | exact oc_func rfl | exact oc_clos rfl rfl); (exact rfl); (first | exact fun w hw => hve w (lies_of hw (l := l2) cut_a))) | ((apply ao_callD; exact wants_a; (exact oc_func rfl); (exact rfl); (intro w hw; exact hlo w (lies_of hw (l := l2) cut_a)); rintro v9 _ ⟨es9, l0, ls, hwr, hes, rfl, hrow, hparts⟩; obtain ⟨a9, c9, hv9⟩ := hrow.len; subst hv9; have hlen9 := wrs_len hwr)) | refine zoS (fun _ => ?_) (fun _ => ?_) | refine zqS (fun _ => ?_) (fun _ => ?_) | refine zwS (fun _ => ?_) (fun _ => ?_))
      exact lq_normal' ⟨i + 1, lg, l2, _, rfl, by omega, hL2, hF, by omega, rfl, rfl, rfl⟩ (by omega) (by repeat (first | exact sub_nil | refine sub_cons rfl ?_)) hsub_a
    · have hgt0 := get_do hF.wl hok
      rw [hkey] at hgt0
      rw [e1] at hdo hF2
      simp only at hdo hF2
      have hwo2 : wfS o2 := hF2.wf (gone, o2) (List.mem_append_right _ List.mem_cons_self)
      have hke := key_eq (keyO o2) (keyO o)
      rw [decide_eq_true hkey] at hke
      cases gone
      · rw [if_neg (by decide)] at hgt0
        repeat' (first | refine aw_seq ?_ | ((first | apply ao_val | apply aq_val); exact wants_a; (first | exact ov_load_oa rfl hg cA rfl | exact ov_a); (exact rfl)) | refine zy ?_ | refine zon fun _ => ?_ | refine zoa fun vr lr hr => ?_ | ((apply ao_callH (l := l); exact wants_a; (exact oc_func rfl); (exact rfl); (exact Cut.here); (exact hdo _ _); rintro _ _ ⟨l2, rfl, rfl, hL2⟩)) | refine zoS (fun _ => ?_) (fun _ => ?_) | refine zqS (fun _ => ?_) (fun _ => ?_) | refine zwS (fun _ => ?_) (fun _ => ?_))
        have hlo := fun w' (hl : Lies w' l2) => slog_ok hL2 hF2 w' hl
        have hve := fun w' (hl : Lies w' l2) => sver_ok hL2 hF2 w' hl
        have hge := fun w' (hl : Lies w' l2) => sget_ok hL2 hF2 (keyO o) w' hl
        simp only [hgt0, getB] at hlo hve hge
        have hn2 : ((lg ++ [(false, o2)]).length : Int) = (lg.length : Int) + 1 := by rw [List.length_append]; rfl
        rw [hn2] at hve
        repeat' (first | refine aw_seq ?_ | refine zz ?_ | refine zon fun _ => ?_ | refine zoa fun vr lr hr => ?_ | ((first | apply ao_call | apply aq_call); exact wants_a; (first | exact oc_func rfl | exact oc_clos rfl rfl); (exact rfl); (first | exact fun w hw => hve w (lies_of hw (l := l2) cut_a))) | ((apply ao_callD; exact wants_a; (exact oc_func rfl); (exact rfl); (intro w hw; exact hlo w (lies_of hw (l := l2) cut_a)); rintro v9 _ ⟨es9, l0, ls, hwr, hes, rfl, hrow, hparts⟩; obtain ⟨a9, c9, hv9⟩ := hrow.len; subst hv9; obtain ⟨e9, he9, hw9, hlen9⟩ := log_last hwr)) | refine zoS (fun _ => ?_) (fun _ => ?_) | refine zqS (fun _ => ?_) (fun _ => ?_) | refine zwS (fun _ => ?_) (fun _ => ?_))
        obtain ⟨kind9, ⟨x9, p9⟩, ver9, u9, qs9⟩ := e9
        have m9 := List.mem_of_getElem? he9
        obtain ⟨hk9, hver9, hqs9⟩ := hes _ m9
        obtain ⟨hg9, hp9⟩ := Prod.mk.inj hw9
        simp only at hk9 hver9 hqs9 hg9 hp9
        subst hver9 hqs9 hp9
        obtain rfl : kind9 = 0 := by have := of_decide_eq_false hg9; omega
        obtain ⟨lk, Rk, -, k1, k2, -, hk1, hk2⟩ := hparts.at m9
        obtain ⟨xa9, xc9, hx9⟩ := RowB.len hk1
        obtain ⟨va9, vc9, hu9⟩ := RowB.len hk2
        simp only at hx9 hu9
        subst hx9 hu9
        clear hk1 hk2
        have hri : ∀ {H R : Hp} (w' : World), RepH ⟨w.heap.size, w, Try.f4.ntmps⟩ H w' → Cut H ls R → Calls Try.prog 23 #[EV 0 (.slice xa9 p9.rs.length xc9, p9) 0 (.slice va9 0 vc9)] w' fun e w'' => e = .returned (.bool true) ∧ Below w'.heap.size w' w'' := fun {H R} w' hw hc => by
          obtain ⟨q1, q2⟩ := log_el hw hparts hc m9 rfl
          have := Evt.pright_ok 0 (.slice xa9 p9.rs.length xc9, p9) 0 (.slice va9 0 vc9) [] hwo2 ⟨by simp, fun p hp => by cases hp⟩ w' q1 q2
          rwa [show rightE 0 p9 0 (obs []) = true from right_wr (e := (false, p9)) hok (by rw [hver]; omega)] at this
        obtain ⟨g9, cap9, cs9, h9, rfl, hc9⟩ := hrow.cells_all cellsE_len (by omega)
        cases h9
        have slA : sl (0 + ((es9.length : Int) - 1).toNat * 11) 11 cs9 = some [I 0, S p9.k, S p9.s, S p9.n, I p9.ver, S p9.c, .bool p9.tm, .bool p9.bs, .slice xa9 p9.rs.length xc9, I 0, .slice va9 0 vc9] := sl_of (vs := cellsE ⟨0, (.slice xa9 p9.rs.length xc9, p9), 0, .slice va9 0 vc9, []⟩) (.inl (by rw [cellsE_len]; omega)) fun r y hr => hc9 lg.length _ ((es9.length : Int) - 1) r y he9 (by omega) hr
        have hkn : (!(eqAll [S p9.k, S p9.s, S p9.n] [S o.k, S o.s, S o.n])) = false := by rw [show eqAll [S p9.k, S p9.s, S p9.n] [S o.k, S o.s, S o.n] = true from hke]; rfl
        repeat' (first | (apply ao_nilh; exact hsub_a) | apply ao_nil | apply aq_nil | apply ah_end | ((first | apply ao_val | apply aq_val | (apply ah_take; (exact rfl))); exact wants_a; (first | exact ov_load_oa rfl hg cK rfl | exact ov_a); (exact rfl)) | ((first | apply ao_skip | apply aq_skip | (apply ah_skip; (exact rfl))); exact nots_a; (exact rfl)) | (refine ao_is ?_; first | (apply ao_new; exact wants_a; exact on_a; (exact rfl); intro _) | (apply ao_store; exact wants_a; exact ow_a; exact upd_a) | (apply ao_valw; exact wants_a; exact ox_a; (exact rfl); exact upd_a) | (apply ao_skip0; exact nots_a) | (apply ao_append; exact wants_a; (exact rfl); assumption; (exact rfl); exact cut_a; exact has_a; (exact rfl); (exact rfl); omega; omega; omega; (exact rfl); intro vr lr hr)) | ((first | apply ao_call | apply aq_call); exact wants_a; (first | exact oc_func rfl | exact oc_clos rfl rfl); (exact rfl); (first | exact fun w hw => hri w hw cut_a)) | ((apply ao_callrg; exact wants_a; (exact oc_func rfl); (exact rfl); (intro w hw; exact hge w (lies_of hw (l := l2) cut_a)); intro v15 l15 r15; obtain ⟨a15, c15, hz15⟩ := r15.len; subst hz15)) | (apply ah_one; (exact rfl)) | (apply ah_two; (exact rfl); (exact rfl)) | (apply ah_three; (exact rfl); (exact rfl); (exact rfl)) | (refine aw_is ?_; first | (apply aw_held (id := 18) (pl := (.t 0 (.t 1 (.t 2 (.t 3 (.t 4 (.t 5 (.t 6 (.o 7 (.t 8 (.t 9 (.t 10 (.t 11 (.t 12 (.t 13 (.t 14 (.t 15 (.t 16 (.t 17 (.t 18 (.t 19 (.t 20 (.t 21 (.t 22 (.t 23 (.t 24 (.t 25 (.t 26 (.t 27 (.t 28 (.t 29 (.t 30 (.t 31 (.t 32 (.t 33 (.t 34 (.t 35 (.t 36 (.t 37 (.t 38 (.t 39 (.t 40 (.t 41 (.t 42 (.t 43 (.t 44 (.t 45 (.t 46 (.t 47 (.t 48 (.t 49 (.t 50 .e)))))))))))))))))))))))))))))))))))))))))))))))))))); (kernel_rfl); (kernel_rfl); (kernel_rfl); (solve | (exact List.Sublist.refl _))) | refine aw_seq ?_ | refine aw_block ?_ | refine aw_region ?_ | refine aw_skip ?_ | refine aw_exit ?_ | refine aw_ret ?_ | refine aw_label ?_ | refine aw_scope ?_ | refine aw_cond_t rfl (by with_reducible rfl) ?_ | refine aw_cond_f rfl (by with_reducible rfl) ?_ | refine aw_draw (by kernel_rfl) (by kernel_rfl) ?_) | (first | (refine ah_is ?_; (fail_if_success first | refine ah_glit (b := true) rfl rfl rfl (by with_reducible rfl) ?_ | refine ah_glit (b := false) rfl rfl rfl (by with_reducible rfl) ?_); apply ah_gt; (exact rfl); (exact rfl); (exact rfl); exact t_a) | ((refine ao_is ?_; (fail_if_success first | refine ao_glit (b := true) rfl rfl (by with_reducible rfl) ?_ | refine ao_glit (b := false) rfl rfl (by with_reducible rfl) ?_)); apply ao_gt; (exact rfl); (exact rfl); exact t_a) | ((refine aq_is ?_; (fail_if_success first | refine aq_glit (b := true) rfl rfl (by with_reducible rfl) ?_ | refine aq_glit (b := false) rfl rfl (by with_reducible rfl) ?_)); apply aq_gt; (exact rfl); (exact rfl); exact t_a) | (apply aw_ct; (exact rfl); exact t_a)) | (first | (refine ah_is ?_; (fail_if_success first | refine ah_glit (b := true) rfl rfl rfl (by with_reducible rfl) ?_ | refine ah_glit (b := false) rfl rfl rfl (by with_reducible rfl) ?_); apply ah_gf; (exact rfl); (exact rfl); (exact rfl); exact f_a) | ((refine ao_is ?_; (fail_if_success first | refine ao_glit (b := true) rfl rfl (by with_reducible rfl) ?_ | refine ao_glit (b := false) rfl rfl (by with_reducible rfl) ?_)); apply ao_gf; (exact rfl); (exact rfl); exact f_a) | ((refine aq_is ?_; (fail_if_success first | refine aq_glit (b := true) rfl rfl (by with_reducible rfl) ?_ | refine aq_glit (b := false) rfl rfl (by with_reducible rfl) ?_)); apply aq_gf; (exact rfl); (exact rfl); exact f_a) | (apply aw_cf; (exact rfl); exact f_a)) | refine at_normal ?_ | refine at_exit ?_ | refine at_ret ?_ | refine ib_normal ?_ | refine ib_exit ?_ | refine ib_other ?_ | refine ib_ret ?_ | refine lq_exit ?_ | refine lq_ret ?_ | refine ci_ret ?_ | refine ci_exit ?_ | refine r1_ret rfl ?_ | refine r1_normal rfl ?_ | refine r2_ret rfl rfl ?_ | refine r2_normal rfl rfl ?_ | refine r3_ret rfl rfl rfl ?_ | refine r3_normal rfl rfl rfl ?_ | refine ng_normal ?_ | refine ng_exit ?_ | refine ng_ret ?_ | (apply rt_ret; (exact rfl); (exact rfl); (exact rfl); exact has_a; exact has_a; (exact rfl); (exact rfl)) | (apply rc1_ret; (exact rfl); exact has_a; (exact rfl)) | (apply rc2_ret; (exact rfl); exact has_a; (exact rfl); (exact rfl)) | (refine ao_is ?_; (fail_if_success first | refine ao_glit (b := true) rfl rfl (by with_reducible rfl) ?_ | refine ao_glit (b := false) rfl rfl (by with_reducible rfl) ?_); refine ao_gbool rfl rfl (fun _ => ?_) (fun _ => ?_)) | (refine aq_is ?_; (fail_if_success first | refine aq_glit (b := true) rfl rfl (by with_reducible rfl) ?_ | refine aq_glit (b := false) rfl rfl (by with_reducible rfl) ?_); refine aq_gbool rfl rfl (fun _ => ?_) (fun _ => ?_)) | (refine aw_is ?_; refine aw_cond rfl (fun _ => ?_) (fun _ => ?_)))
        exact lq_normal' ⟨i + 1, _, l2, _, rfl, by omega, hL2, hF2, by rw [List.length_append, List.length_singleton]; omega, hn2.symm, rfl, rfl⟩ (by omega) (by repeat (first | exact sub_nil | refine sub_cons rfl ?_)) hsub_a
      · rw [if_pos rfl] at hgt0
        repeat' (first | refine aw_seq ?_ | ((first | apply ao_val | apply aq_val); exact wants_a; (first | exact ov_load_oa rfl hg cA rfl | exact ov_a); (exact rfl)) | refine zy ?_ | refine zon fun _ => ?_ | refine zoa fun vr lr hr => ?_ | ((apply ao_callH (l := l); exact wants_a; (exact oc_func rfl); (exact rfl); (exact Cut.here); (exact hdo _ _); rintro _ _ ⟨l2, rfl, rfl, hL2⟩)) | refine zoS (fun _ => ?_) (fun _ => ?_) | refine zqS (fun _ => ?_) (fun _ => ?_) | refine zwS (fun _ => ?_) (fun _ => ?_))
        have hlo := fun w' (hl : Lies w' l2) => slog_ok hL2 hF2 w' hl
        have hve := fun w' (hl : Lies w' l2) => sver_ok hL2 hF2 w' hl
        have hge := fun w' (hl : Lies w' l2) => sget_ok hL2 hF2 (keyO o) w' hl
        simp only [hgt0, getB] at hlo hve hge
        have hn2 : ((lg ++ [(true, o2)]).length : Int) = (lg.length : Int) + 1 := by rw [List.length_append]; rfl
        rw [hn2] at hve
        repeat' (first | refine aw_seq ?_ | refine zz ?_ | refine zon fun _ => ?_ | refine zoa fun vr lr hr => ?_ | ((first | apply ao_call | apply aq_call); exact wants_a; (first | exact oc_func rfl | exact oc_clos rfl rfl); (exact rfl); (first | exact fun w hw => hve w (lies_of hw (l := l2) cut_a))) | ((apply ao_callD; exact wants_a; (exact oc_func rfl); (exact rfl); (intro w hw; exact hlo w (lies_of hw (l := l2) cut_a)); rintro v9 _ ⟨es9, l0, ls, hwr, hes, rfl, hrow, hparts⟩; obtain ⟨a9, c9, hv9⟩ := hrow.len; subst hv9; obtain ⟨e9, he9, hw9, hlen9⟩ := log_last hwr)) | refine zoS (fun _ => ?_) (fun _ => ?_) | refine zqS (fun _ => ?_) (fun _ => ?_) | refine zwS (fun _ => ?_) (fun _ => ?_))
        obtain ⟨kind9, ⟨x9, p9⟩, ver9, u9, qs9⟩ := e9
        have m9 := List.mem_of_getElem? he9
        obtain ⟨hk9, hver9, hqs9⟩ := hes _ m9
        obtain ⟨hg9, hp9⟩ := Prod.mk.inj hw9
        simp only at hk9 hver9 hqs9 hg9 hp9
        subst hver9 hqs9 hp9
        obtain rfl : kind9 = 1 := by exact of_decide_eq_true hg9
        obtain ⟨lk, Rk, -, k1, k2, -, hk1, hk2⟩ := hparts.at m9
        obtain ⟨xa9, xc9, hx9⟩ := RowB.len hk1
        obtain ⟨va9, vc9, hu9⟩ := RowB.len hk2
        simp only at hx9 hu9
        subst hx9 hu9
        clear hk1 hk2
        have hri : ∀ {H R : Hp} (w' : World), RepH ⟨w.heap.size, w, Try.f4.ntmps⟩ H w' → Cut H ls R → Calls Try.prog 23 #[EV 1 (.slice xa9 p9.rs.length xc9, p9) 0 (.slice va9 0 vc9)] w' fun e w'' => e = .returned (.bool true) ∧ Below w'.heap.size w' w'' := fun {H R} w' hw hc => by
          obtain ⟨q1, q2⟩ := log_el hw hparts hc m9 rfl
          have := Evt.pright_ok 1 (.slice xa9 p9.rs.length xc9, p9) 0 (.slice va9 0 vc9) [] hwo2 ⟨by simp, fun p hp => by cases hp⟩ w' q1 q2
          rwa [show rightE 1 p9 0 (obs []) = true from right_wr (e := (true, p9)) hok (by rw [hver]; omega)] at this
        obtain ⟨g9, cap9, cs9, h9, rfl, hc9⟩ := hrow.cells_all cellsE_len (by omega)
        cases h9
        have slA : sl (0 + ((es9.length : Int) - 1).toNat * 11) 11 cs9 = some [I 1, S p9.k, S p9.s, S p9.n, I p9.ver, S p9.c, .bool p9.tm, .bool p9.bs, .slice xa9 p9.rs.length xc9, I 0, .slice va9 0 vc9] := sl_of (vs := cellsE ⟨1, (.slice xa9 p9.rs.length xc9, p9), 0, .slice va9 0 vc9, []⟩) (.inl (by rw [cellsE_len]; omega)) fun r y hr => hc9 lg.length _ ((es9.length : Int) - 1) r y he9 (by omega) hr
        have hkn : (!(eqAll [S p9.k, S p9.s, S p9.n] [S o.k, S o.s, S o.n])) = false := by rw [show eqAll [S p9.k, S p9.s, S p9.n] [S o.k, S o.s, S o.n] = true from hke]; rfl
        repeat' (first | (apply ao_nilh; exact hsub_a) | apply ao_nil | apply aq_nil | apply ah_end | ((first | apply ao_val | apply aq_val | (apply ah_take; (exact rfl))); exact wants_a; (first | exact ov_load_oa rfl hg cK rfl | exact ov_a); (exact rfl)) | ((first | apply ao_skip | apply aq_skip | (apply ah_skip; (exact rfl))); exact nots_a; (exact rfl)) | (refine ao_is ?_; first | (apply ao_new; exact wants_a; exact on_a; (exact rfl); intro _) | (apply ao_store; exact wants_a; exact ow_a; exact upd_a) | (apply ao_valw; exact wants_a; exact ox_a; (exact rfl); exact upd_a) | (apply ao_skip0; exact nots_a) | (apply ao_append; exact wants_a; (exact rfl); assumption; (exact rfl); exact cut_a; exact has_a; (exact rfl); (exact rfl); omega; omega; omega; (exact rfl); intro vr lr hr)) | ((first | apply ao_call | apply aq_call); exact wants_a; (first | exact oc_func rfl | exact oc_clos rfl rfl); (exact rfl); (first | exact fun w hw => hri w hw cut_a)) | ((apply ao_callrg; exact wants_a; (exact oc_func rfl); (exact rfl); (intro w hw; exact hge w (lies_of hw (l := l2) cut_a)); intro v15 l15 r15; obtain ⟨a15, c15, hz15⟩ := r15.len; subst hz15)) | (apply ah_one; (exact rfl)) | (apply ah_two; (exact rfl); (exact rfl)) | (apply ah_three; (exact rfl); (exact rfl); (exact rfl)) | (refine aw_is ?_; first | (apply aw_held (id := 18) (pl := (.t 0 (.t 1 (.t 2 (.t 3 (.t 4 (.t 5 (.t 6 (.o 7 (.t 8 (.t 9 (.t 10 (.t 11 (.t 12 (.t 13 (.t 14 (.t 15 (.t 16 (.t 17 (.t 18 (.t 19 (.t 20 (.t 21 (.t 22 (.t 23 (.t 24 (.t 25 (.t 26 (.t 27 (.t 28 (.t 29 (.t 30 (.t 31 (.t 32 (.t 33 (.t 34 (.t 35 (.t 36 (.t 37 (.t 38 (.t 39 (.t 40 (.t 41 (.t 42 (.t 43 (.t 44 (.t 45 (.t 46 (.t 47 (.t 48 (.t 49 (.t 50 .e)))))))))))))))))))))))))))))))))))))))))))))))))))); (kernel_rfl); (kernel_rfl); (kernel_rfl); (solve | (exact List.Sublist.refl _))) | refine aw_seq ?_ | refine aw_block ?_ | refine aw_region ?_ | refine aw_skip ?_ | refine aw_exit ?_ | refine aw_ret ?_ | refine aw_label ?_ | refine aw_scope ?_ | refine aw_cond_t rfl (by with_reducible rfl) ?_ | refine aw_cond_f rfl (by with_reducible rfl) ?_ | refine aw_draw (by kernel_rfl) (by kernel_rfl) ?_) | (first | (refine ah_is ?_; (fail_if_success first | refine ah_glit (b := true) rfl rfl rfl (by with_reducible rfl) ?_ | refine ah_glit (b := false) rfl rfl rfl (by with_reducible rfl) ?_); apply ah_gt; (exact rfl); (exact rfl); (exact rfl); exact t_a) | ((refine ao_is ?_; (fail_if_success first | refine ao_glit (b := true) rfl rfl (by with_reducible rfl) ?_ | refine ao_glit (b := false) rfl rfl (by with_reducible rfl) ?_)); apply ao_gt; (exact rfl); (exact rfl); exact t_a) | ((refine aq_is ?_; (fail_if_success first | refine aq_glit (b := true) rfl rfl (by with_reducible rfl) ?_ | refine aq_glit (b := false) rfl rfl (by with_reducible rfl) ?_)); apply aq_gt; (exact rfl); (exact rfl); exact t_a) | (apply aw_ct; (exact rfl); exact t_a)) | (first | (refine ah_is ?_; (fail_if_success first | refine ah_glit (b := true) rfl rfl rfl (by with_reducible rfl) ?_ | refine ah_glit (b := false) rfl rfl rfl (by with_reducible rfl) ?_); apply ah_gf; (exact rfl); (exact rfl); (exact rfl); exact f_a) | ((refine ao_is ?_; (fail_if_success first | refine ao_glit (b := true) rfl rfl (by with_reducible rfl) ?_ | refine ao_glit (b := false) rfl rfl (by with_reducible rfl) ?_)); apply ao_gf; (exact rfl); (exact rfl); exact f_a) | ((refine aq_is ?_; (fail_if_success first | refine aq_glit (b := true) rfl rfl (by with_reducible rfl) ?_ | refine aq_glit (b := false) rfl rfl (by with_reducible rfl) ?_)); apply aq_gf; (exact rfl); (exact rfl); exact f_a) | (apply aw_cf; (exact rfl); exact f_a)) | refine at_normal ?_ | refine at_exit ?_ | refine at_ret ?_ | refine ib_normal ?_ | refine ib_exit ?_ | refine ib_other ?_ | refine ib_ret ?_ | refine lq_exit ?_ | refine lq_ret ?_ | refine ci_ret ?_ | refine ci_exit ?_ | refine r1_ret rfl ?_ | refine r1_normal rfl ?_ | refine r2_ret rfl rfl ?_ | refine r2_normal rfl rfl ?_ | refine r3_ret rfl rfl rfl ?_ | refine r3_normal rfl rfl rfl ?_ | refine ng_normal ?_ | refine ng_exit ?_ | refine ng_ret ?_ | (apply rt_ret; (exact rfl); (exact rfl); (exact rfl); exact has_a; exact has_a; (exact rfl); (exact rfl)) | (apply rc1_ret; (exact rfl); exact has_a; (exact rfl)) | (apply rc2_ret; (exact rfl); exact has_a; (exact rfl); (exact rfl)) | (refine ao_is ?_; (fail_if_success first | refine ao_glit (b := true) rfl rfl (by with_reducible rfl) ?_ | refine ao_glit (b := false) rfl rfl (by with_reducible rfl) ?_); refine ao_gbool rfl rfl (fun _ => ?_) (fun _ => ?_)) | (refine aq_is ?_; (fail_if_success first | refine aq_glit (b := true) rfl rfl (by with_reducible rfl) ?_ | refine aq_glit (b := false) rfl rfl (by with_reducible rfl) ?_); refine aq_gbool rfl rfl (fun _ => ?_) (fun _ => ?_)) | (refine aw_is ?_; refine aw_cond rfl (fun _ => ?_) (fun _ => ?_)))
        exact lq_normal' ⟨i + 1, _, l2, _, rfl, by omega, hL2, hF2, by rw [List.length_append, List.length_singleton]; omega, hn2.symm, rfl, rfl⟩ (by omega) (by repeat (first | exact sub_nil | refine sub_cons rfl ?_)) hsub_a
  · obtain rfl : i = ws.length := by omega
    have hsn := fun w' (hl : Lies w' l) => ssnap_ok hL hF w' hl
    have hcl : ∀ o ∈ osL lg, wfS o := fun o ho => by obtain ⟨e, he, rfl⟩ := osL_from ho; exact hF.wf e he
    have hln := (osL_all hF.wl).2.2
    repeat' (first | refine aw_seq ?_ | refine zz ?_ | refine zon fun _ => ?_ | refine zoa fun vr lr hr => ?_ | ((first | apply ao_call | apply aq_call); exact wants_a; (first | exact oc_func rfl | exact oc_clos rfl rfl); (exact rfl); (first | exact fun w hw => salive_ok w)) | ((apply ao_callD; exact wants_a; (exact oc_func rfl); (exact rfl); (intro w hw; exact hsn w (lies_of hw (l := l) cut_a)); rintro _ _ ⟨x5, u5, lx, lv, rfl, rfl, hx5, hd5⟩; obtain ⟨a5, c5, hz5⟩ := hx5.len; subst hz5; obtain ⟨ps5, l5, ls5, hob5, hlv5, hrow5, hpar5⟩ := hd5; obtain ⟨b5, d5, hu5⟩ := hrow5.len; subst hu5 hlv5)) | refine zoS (fun _ => ?_) (fun _ => ?_) | refine zqS (fun _ => ?_) (fun _ => ?_) | refine zwS (fun _ => ?_) (fun _ => ?_))
    have hri : ∀ {H R : Hp} (w' : World), RepH ⟨w.heap.size, w, Try.f4.ntmps⟩ H w' → Cut H (lx ++ (l5 ++ ls5)) R → Calls Try.prog 23 #[EV 2 (.slice a5 zO.rs.length c5, zO) lg.length (.slice b5 ps5.length d5)] w' fun e w'' => e = .returned (.bool true) ∧ Below w'.heap.size w' w'' := fun {H R} w' hw hc => by
      have hlp : ps5.length = (osL lg).length := by rw [← hob5, obs_len]
      have hlg2 := hF.len
      have := Evt.pright_ok 2 (.slice a5 zO.rs.length c5, zO) lg.length (.slice b5 ps5.length d5) ps5 (by simp [wfS, wfR]) ⟨by omega, fun p hp => hcl p.2 (by rw [← hob5]; exact List.mem_map.2 ⟨p, hp, rfl⟩)⟩ w' (hw.oldr hx5 hc.fst) (objs_at hw hrow5 hpar5 hc.snd)
      rwa [hob5, right_snap hF.wl hF.len] at this
    repeat' (first | refine aw_seq ?_ | refine zz ?_ | refine zon fun _ => ?_ | refine zoa fun vr lr hr => ?_ | ((first | apply ao_call | apply aq_call); exact wants_a; (first | exact oc_func rfl | exact oc_clos rfl rfl); (exact rfl); (first | exact fun w hw => hri w hw cut_a)) | refine zoS (fun _ => ?_) (fun _ => ?_) | refine zqS (fun _ => ?_) (fun _ => ?_) | refine zwS (fun _ => ?_) (fun _ => ?_))
    exact fun w' hw => ⟨rfl, hw.below⟩
end Stm
end Go.Proofs.Ytbllkmhkpapgeaa
