/- The walk of StoreTold of layer 9; conditions: none. -/
import Derived.Test.YtbllkmhkpapgeaaStj
import Derived.Test.YtbllkmhkpapgeaaChz
namespace Go.Proofs.Ytbllkmhkpapgeaa
namespace Stm
open Go Go.RowKit Sx Lab Vec Ojt Evt Chm
attribute [local irreducible] Go.Calls

/-- What a cache that was told a part of a log says of the snapshot: 6 (stale), if nothing was written. -/
def snE (n : Nat) : Int := if n = 0 then 6 else 0
theorem snap_all {st : St} {lg : List Wr} {i : Nat} (h : Told st (lg.take i)) (hw : WfL lg) (hl : lg.length ≤ 1000) : ∃ ds st2, apO st 2 zO lg.length (osL lg) = (snE lg.length, ds, st2) ∧ st2.os = osL lg := by
  rcases Nat.eq_zero_or_pos lg.length with h0 | h0
  · obtain rfl := List.eq_nil_of_length_eq_zero h0
    refine ⟨[], st, ?_, ?_⟩
    · have hr : rightE 2 zO 0 [] = true := rfl
      show apO st 2 zO 0 [] = (6, [], st)
      unfold apO
      rw [if_neg (by rw [hr]; decide), if_pos (by rw [vers_is hr, if_neg (by decide), lowO, if_neg (by decide), h.fl]; exact Int.le_refl _)]
    · have := h.os
      rw [List.take_nil] at this
      exact this
  · obtain ⟨ds, h1, h2⟩ := h.snap hw hl h0
    refine ⟨ds, _, ?_, h2⟩
    unfold snE
    rw [if_neg (by omega)]
    exact h1
/-- One event more of a log is told. -/
theorem told_more {st : St} {lg : List Wr} {es : List PE} {i : Nat} {e : PE} (hwr : wrs es = lg) (hF : FitL lg) (h : Told st (lg.take i)) (he : es[i]? = some e) (hk : e.kind = 0 ∨ e.kind = 1) (hq : e.qs = []) (hv : e.ver = 0) (hst : FitSt st) (hg : st.gs.length ≤ i) :
    ∃ ds st2, apO st e.kind e.p.2 e.ver (obs e.qs) = (0, ds, st2) ∧ Told st2 (lg.take (i + 1)) ∧ FitSt st2 ∧ st2.gs.length ≤ i + 1 := by
  have hlt := (List.getElem?_eq_some_iff.1 he).1
  have hln := hF.len
  have hel : es.length = lg.length := by rw [← hwr]; exact (List.length_map _).symm
  have hl : lg[i]? = some (wrE e) := by rw [← hwr]; unfold wrs; rw [List.getElem?_map, he]; rfl
  have ht : lg.take (i + 1) = lg.take i ++ [wrE e] := by rw [List.take_add_one, hl]; rfl
  have hkd : kdW (wrE e) = e.kind := by
    unfold kdW wrE
    rcases hk with h0 | h0 <;> rw [h0] <;> rfl
  have hws : wfS e.p.2 := hF.wf (wrE e) (List.mem_of_getElem? hl)
  obtain ⟨ds, h1, h2⟩ := h.step (e := wrE e) (by rw [← ht]; exact hF.wl.take _) (by rw [List.length_take]; omega)
  rw [hkd] at h1 h2
  have h3 := fit_ap hst (by omega) (kind := e.kind) (o := e.p.2) (ver := 0) (qs := []) hws (by simp) (fun _ h => by cases h)
  replace h1 : apO st e.kind e.p.2 0 [] = _ := h1
  rw [h1] at h3
  refine ⟨ds, _, by rw [hv, hq]; exact h1, by rw [ht]; exact h2, h3.1, ?_⟩
  have := h3.2
  simp only at this ⊢
  omega
theorem perm3c (a b c X : Hp) : (c ++ (b ++ (a ++ X))).Perm (a ++ (b ++ (c ++ X))) :=
  (List.Perm.append_left c (List.perm_append_comm_assoc b a X)).trans ((List.perm_append_comm_assoc c a _).trans (List.Perm.append_left a (List.perm_append_comm_assoc c b X)))
set_option maxHeartbeats 64000000 in
theorem told_ok (v : Value) (ws : List PW) (part : Int) (hp0 : 0 ≤ part) (hp1 : part < 256) (hn : ∀ e ∈ ws, numR e.2.2.rs) (w : World) (hv : WrAt w v ws) : Calls Try.prog 5 #[v, .int .u8 part] w fun e w' => e = .returned (.bool true) ∧ Below w.heap.size w w' := by
  have hfit := fun w' (hb : Below w.heap.size w w') => fits9_ok v ws w' (hv.below hb)
  obtain ⟨a, cp, rfl, hat⟩ := OldRow.cells cellsW_len hv.1
  refine calls1 (args := [.slice a ws.length cp, .int .u8 part]) Try.func5 rfl rfl rfl rfl ?_
  cases hq : fitWs ws
  · rw [hq] at hfit
    repeat' (first | refine aw_seq ?_ | refine zz ?_ | refine zon fun _ => ?_ | refine zoa fun vr lr hr => ?_ | ((first | apply ao_call | apply aq_call); exact wants_a; (first | exact oc_func rfl | exact oc_clos rfl rfl); (exact rfl); (first | exact fun w hw => hfit w hw.below | exact fun w hw => salive_ok w)) | refine zoS (fun _ => ?_) (fun _ => ?_) | refine zqS (fun _ => ?_) (fun _ => ?_) | refine zwS (fun _ => ?_) (fun _ => ?_))
    exact fun w' hw => ⟨rfl, hw.below⟩
  rw [hq] at hfit
  obtain ⟨h60, hwf⟩ := fitWs_wf hq hn
  repeat' (first | refine aw_seq ?_ | refine zz ?_ | refine zon fun _ => ?_ | refine zoa fun vr lr hr => ?_ | ((first | apply ao_call | apply aq_call); exact wants_a; (first | exact oc_func rfl | exact oc_clos rfl rfl); (exact rfl); (first | exact fun w hw => hfit w hw.below)) | ((apply ao_callD; exact wants_a; (exact oc_func rfl); (exact rfl); (intro w hw; exact snew_ok w); intro vr lr hr)) | refine zoS (fun _ => ?_) (fun _ => ?_) | refine zqS (fun _ => ?_) (fun _ => ?_) | refine zwS (fun _ => ?_) (fun _ => ?_))
  obtain ⟨g, hvr, hL⟩ := hr
  subst hvr
  refine aw_for (t0 := [(1, .int .u8 part), (0, .slice a ws.length cp), (6, .pointer (some ⟨g, 0, none⟩)), (7, I (0 : Nat))]) (fun q t H => ∃ (i : Nat) (lg : List Wr) (l : Hp), q = ws.length - i ∧ i ≤ ws.length ∧ LSt lg g l ∧ FitL lg ∧ lg.length ≤ i ∧ t = [(1, .int .u8 part), (0, .slice a ws.length cp), (6, .pointer (some ⟨g, 0, none⟩)), (7, I i)] ∧ H = l ++ [])
    ⟨0, [], lr, rfl, by omega, hL, FitL.nil, Nat.le_refl _, rfl, rfl⟩ (by repeat (first | exact sub_nil | refine sub_cons rfl ?_)) ?_
  clear hL
  rintro q t H ⟨i, lg, l, rfl, hi, hL, hF, hlg, rfl, rfl⟩
  by_cases hlt : i < ws.length
  · obtain ⟨⟨gone, ⟨x, o⟩⟩, he⟩ := getP hlt
    have m1 := List.mem_of_getElem? he
    have hwo := hwf _ m1
    have ho := hv.2 _ m1
    simp only at hwo ho
    obtain ⟨xa, xc, hx⟩ := ho.len
    subst hx
    obtain ⟨ga, o1, rfl, hg, hc⟩ := hat i _ (i : Int) he rfl
    have cA : ∀ (j : Nat) z, [.bool gone, S o.k, S o.s, S o.n, I o.ver, S o.c, .bool o.tm, .bool o.bs, .slice xa o.rs.length xc][j]? = some z → w.cell? ⟨ga, o1 + (i : Int).toNat * 9 + j, none⟩ = some z := hc
    have hdo := fun m R => sdo_ok (m := m) (w0 := w) hL hF gone o (.slice xa o.rs.length xc) hwo ho R
    have hF2 := fit_do hF (by omega) gone (o := o) hwo
    have hln2 := do_len lg gone o
    generalize doL lg gone o = X at hdo hF2 hln2
    obtain ⟨n, er, lg2⟩ := X
    simp only at hdo hF2 hln2
    repeat' (first | refine aw_seq ?_ | ((first | apply ao_val | apply aq_val); exact wants_a; (first | exact ov_load_oa rfl hg cA rfl | exact ov_a); (exact rfl)) | refine zy ?_ | refine zon fun _ => ?_ | refine zoa fun vr lr hr => ?_ | ((apply ao_callH (l := l); exact wants_a; (exact oc_func rfl); (exact rfl); (exact Cut.here); (exact hdo _ _); rintro _ _ ⟨l2, rfl, rfl, hL2⟩)) | refine zoS (fun _ => ?_) (fun _ => ?_) | refine zqS (fun _ => ?_) (fun _ => ?_) | refine zwS (fun _ => ?_) (fun _ => ?_))
    exact lq_normal' ⟨i + 1, lg2, l2, rfl, by omega, hL2, hF2, by omega, rfl, rfl⟩ (by omega) (by repeat (first | exact sub_nil | refine sub_cons rfl ?_)) hsub_a
  obtain rfl : i = ws.length := by omega
  clear hat hwf hfit
  have hlo := fun w' (hl : Lies w' l) => slog_ok hL hF w' hl
  have hve := fun w' (hl : Lies w' l) => sver_ok hL hF w' hl
  have hsn := fun w' (hl : Lies w' l) => ssnap_ok hL hF w' hl
  have hcl := hF.os
  have hna := pnew_ok
  have hnb := pnew_ok
  have hnc := pnew_ok
  have hln := hF.len
  repeat' (first | refine aw_seq ?_ | refine zz ?_ | refine zon fun _ => ?_ | refine zoa fun vr lr hr => ?_ | ((have hq := hna; apply ao_callD; exact wants_a; (exact oc_func rfl); (exact rfl); (intro w hw; exact hq w); intro vr la hr; obtain ⟨ga, hvr, hLa⟩ := hr; subst hvr; clear hq hna)) | ((have hq := hnb; apply ao_callD; exact wants_a; (exact oc_func rfl); (exact rfl); (intro w hw; exact hq w); intro vr lb hr; obtain ⟨gb, hvr, hLb⟩ := hr; subst hvr; clear hq hnb)) | ((have hq := hnc; apply ao_callD; exact wants_a; (exact oc_func rfl); (exact rfl); (intro w hw; exact hq w); intro vr lc hr; obtain ⟨gc, hvr, hLc⟩ := hr; subst hvr; clear hq hnc)) | ((apply ao_callD; exact wants_a; (exact oc_func rfl); (exact rfl); (intro w hw; exact hlo w (lies_of hw (l := l) cut_a)); rintro v9 _ ⟨es, l0, ls, hwr, hes, rfl, hrow, hparts⟩; obtain ⟨a9, c9, hv9⟩ := hrow.len; subst hv9; have hlen9 := wrs_len hwr)) | refine zoS (fun _ => ?_) (fun _ => ?_) | refine zqS (fun _ => ?_) (fun _ => ?_) | refine zwS (fun _ => ?_) (fun _ => ?_))
  obtain ⟨M, hM⟩ : ∃ M : Nat, part % ((es.length : Int) + 1) = M := ⟨(part % ((es.length : Int) + 1)).toNat, (Int.toNat_of_nonneg (Int.emod_nonneg _ (by omega))).symm⟩
  have hT0 : ∀ n, Told .new (lg.take (min 0 n)) := fun n => by rw [Nat.zero_min, List.take_zero]; exact Told.new
  refine aw_for (t0 := [(1, .int .u8 part), (6, .pointer (some ⟨g, 0, none⟩)), (8, .pointer (some ⟨ga, 0, none⟩)), (9, .pointer (some ⟨gb, 0, none⟩)), (10, .pointer (some ⟨gc, 0, none⟩)), (11, .slice a9 es.length c9), (12, I (0 : Nat))])
    (fun q t H => ∃ (i : Nat) (la lc : Hp) (sa sc : St), q = es.length - i ∧ i ≤ es.length ∧ LCh sa ga la ∧ FitSt sa ∧ Told sa (lg.take i) ∧ sa.gs.length ≤ i ∧ LCh sc gc lc ∧ FitSt sc ∧ Told sc (lg.take (min i (M))) ∧ sc.gs.length ≤ i ∧
      t = [(1, .int .u8 part), (6, .pointer (some ⟨g, 0, none⟩)), (8, .pointer (some ⟨ga, 0, none⟩)), (9, .pointer (some ⟨gb, 0, none⟩)), (10, .pointer (some ⟨gc, 0, none⟩)), (11, .slice a9 es.length c9), (12, I i)] ∧ H.Perm (la ++ (ls ++ (lc ++ (l0 ++ (lb ++ (l ++ [])))))))
    ⟨0, la, lc, .new, .new, rfl, by omega, hLa, fit_new, hT0 0, Nat.le_refl _, hLc, fit_new, hT0 _, Nat.le_refl _, rfl, (by classical exact List.perm_iff_count.2 fun x => by simp only [List.count_append]; omega)⟩ (by repeat (first | exact sub_nil | refine sub_cons rfl ?_)) ?_
  clear hLa hLc
  rintro q t H ⟨i, la, lc, sa, sc, rfl, hi, hLa, hFa, hTa, hga, hLc, hFc, hTc, hgc, rfl, hperm⟩
  refine aw_permH hperm ?_
  clear hperm
  by_cases hlt : i < es.length
  · obtain ⟨e9, he9⟩ := getP hlt
    have m9 := List.mem_of_getElem? he9
    obtain ⟨hk9, hver9, hqs9⟩ := hes _ m9
    have hws : wfS e9.p.2 := hF.wf (wrE e9) (by rw [← hwr]; exact List.mem_map.2 ⟨e9, m9, rfl⟩)
    obtain ⟨dsA, sa2, ha1, ha2, ha3, ha4⟩ := told_more hwr hF hTa he9 hk9 hqs9 hver9 hFa hga
    obtain ⟨lk, Rk, -, k1, k2, -, hk1, hk2⟩ := hparts.at m9
    obtain ⟨kind9, ⟨x9, p9⟩, ver9, u9, qs9⟩ := e9
    simp only at hk9 hver9 hqs9 hws ha1
    subst hver9 hqs9
    obtain ⟨xa9, xc9, hx9⟩ := RowB.len hk1
    obtain ⟨va9, vc9, hu9⟩ := RowB.len hk2
    simp only at hx9 hu9
    subst hx9 hu9
    clear hk1 hk2
    have hapA := fun {m : Nat} R => papplyE_ok (m := m) (w0 := w) (le := ls) hLa hFa kind9 (.slice xa9 p9.rs.length xc9, p9) 0 (.slice va9 0 vc9) [] hws ⟨by simp, fun p hp => by cases hp⟩ (by simp) ⟨_, _, _, rfl⟩ ⟨_, _, _, rfl⟩ (fun w' hw hc => log_el hw hparts hc m9 rfl) R
    simp only [ha1] at hapA
    obtain ⟨g9, cap9, cs9, h9, rfl, hc9⟩ := hrow.cells_all cellsE_len (by omega)
    cases h9
    have slA : sl (0 + (i : Int).toNat * 11) 11 cs9 = some [I kind9, S p9.k, S p9.s, S p9.n, I p9.ver, S p9.c, .bool p9.tm, .bool p9.bs, .slice xa9 p9.rs.length xc9, I 0, .slice va9 0 vc9] := sl_of (vs := cellsE ⟨kind9, (.slice xa9 p9.rs.length xc9, p9), 0, .slice va9 0 vc9, []⟩) (.inl (by rw [cellsE_len]; omega)) fun r y hr => hc9 i _ (i : Int) r y he9 rfl hr
    by_cases hm : i < M
    · have hmZ : (i : Int) < part % ((es.length : Int) + 1) := by rw [hM]; omega
      have hmi : min i (M) = i := by omega
      rw [hmi] at hTc
      obtain ⟨dsC, sc2, hc1, hc2, hc3, hc4⟩ := told_more hwr hF hTc he9 hk9 rfl rfl hFc hgc
      simp only at hc1
      have hapC := fun {m : Nat} R => papplyE_ok (m := m) (w0 := w) (le := ls) hLc hFc kind9 (.slice xa9 p9.rs.length xc9, p9) 0 (.slice va9 0 vc9) [] hws ⟨by simp, fun p hp => by cases hp⟩ (by simp) ⟨_, _, _, rfl⟩ ⟨_, _, _, rfl⟩ (fun w' hw hc => log_el hw hparts hc m9 rfl) R
      simp only [hc1] at hapC
      repeat' (first | refine aw_seq ?_ | refine zz ?_ | refine zon fun _ => ?_ | refine zoa fun vr lr hr => ?_ | ((have hq := fun {m : Nat} R => hapA (m := m) R; apply ao_callH (l := la ++ ls); exact wants_a; (exact oc_func rfl); (exact rfl); (exact cut_app cut_a cut_a); (rw [List.append_assoc]; exact hq _); rintro _ _ ⟨rd, ld, la2, rfl, rfl, hLa2, -⟩; clear hq hapA)) | refine zoS (fun _ => ?_) (fun _ => ?_) | refine zqS (fun _ => ?_) (fun _ => ?_) | refine zwS (fun _ => ?_) (fun _ => ?_))
      repeat' (first | refine aw_seq ?_ | refine zz ?_ | refine zon fun _ => ?_ | refine zoa fun vr lr hr => ?_ | ((have hq := fun {m : Nat} R => hapC (m := m) R; apply ao_callH (l := lc ++ ls); exact wants_a; (exact oc_func rfl); (exact rfl); (exact cut_app cut_a cut_a); (rw [List.append_assoc]; exact hq _); rintro _ _ ⟨rd2, ld2, lc2, rfl, rfl, hLc2, -⟩; clear hq hapC)) | refine zoS (fun _ => ?_) (fun _ => ?_) | refine zqS (fun _ => ?_) (fun _ => ?_) | refine zwS (fun _ => ?_) (fun _ => ?_))
      refine lq_normal' (H' := lc2 ++ (ls ++ (la2 ++ ([(g9, .cells cs9.toArray 50 (0, 0))] ++ (lb ++ (l ++ [])))))) ⟨i + 1, la2, lc2, sa2, sc2, rfl, by omega, hLa2, ha3, ha2, ha4, hLc2, hc3, ?_, hc4, rfl, (by classical exact List.perm_iff_count.2 fun x => by simp only [List.count_append]; omega)⟩ (by omega) (by repeat (first | exact sub_nil | refine sub_cons rfl ?_)) hsub_a
      rw [show min (i + 1) M = i + 1 by omega]
      exact hc2
    · have hmZ : ¬ (i : Int) < part % ((es.length : Int) + 1) := by rw [hM]; omega
      repeat' (first | refine aw_seq ?_ | refine zz ?_ | refine zon fun _ => ?_ | refine zoa fun vr lr hr => ?_ | ((have hq := fun {m : Nat} R => hapA (m := m) R; apply ao_callH (l := la ++ ls); exact wants_a; (exact oc_func rfl); (exact rfl); (exact cut_app cut_a cut_a); (rw [List.append_assoc]; exact hq _); rintro _ _ ⟨rd, ld, la2, rfl, rfl, hLa2, -⟩; clear hq hapA)) | refine zoS (fun _ => ?_) (fun _ => ?_) | refine zqS (fun _ => ?_) (fun _ => ?_) | refine zwS (fun _ => ?_) (fun _ => ?_))
      refine lq_normal' (H' := la2 ++ (ls ++ (lc ++ ([(g9, .cells cs9.toArray 50 (0, 0))] ++ (lb ++ (l ++ [])))))) ⟨i + 1, la2, lc, sa2, sc, rfl, by omega, hLa2, ha3, ha2, ha4, hLc, hFc, ?_, by omega, rfl, List.Perm.refl _⟩ (by omega) (by repeat (first | exact sub_nil | refine sub_cons rfl ?_)) hsub_a
      rw [show min (i + 1) M = min i M by omega]
      exact hTc
  obtain rfl : i = es.length := by omega
  rw [hlen9, List.take_length] at hTa
  have hFb := fit_new
  obtain ⟨dsb, sb2, hb1, hb2⟩ := snap_all (hT0 0) hF.wl hF.len
  obtain ⟨dsc, sc2, hc1, hc2⟩ := snap_all hTc hF.wl hF.len
  have wz : wfS zO := by simp [wfS, wfR]
  have hosl := hF.osl
  have hfb := (fit_ap fit_new (by simp) (kind := 2) (o := zO) (ver := lg.length) (qs := osL lg) wz hosl hcl).1
  have hfc := (fit_ap hFc (by omega) (kind := 2) (o := zO) (ver := lg.length) (qs := osL lg) wz hosl hcl).1
  rw [hb1] at hfb
  rw [hc1] at hfc
  simp only at hfb hfc
  have hwl : ∀ ps : List PO, obs ps = osL lg → wfL ps ∧ ps.length ≤ 1000 := fun ps h => by
    have hlp : ps.length = (osL lg).length := by rw [← h, obs_len]
    exact ⟨⟨by omega, fun p hp => hcl p.2 (by rw [← h]; exact List.mem_map.2 ⟨p, hp, rfl⟩)⟩, by omega⟩
  have hsn1 := hsn
  have hsn2 := hsn
  have hsn3 := hsn
  repeat' (first | refine aw_seq ?_ | refine zz ?_ | refine zon fun _ => ?_ | refine zoa fun vr lr hr => ?_ | ((have hq := hsn1; apply ao_callD; exact wants_a; (exact oc_func rfl); (exact rfl); (intro w hw; exact hq w (lies_of hw (l := l) cut_a)); rintro _ _ ⟨x1, u1, lx1, lv1, rfl, rfl, hx1, hd1⟩; obtain ⟨a1, c1, hz1⟩ := hx1.len; subst hz1; obtain ⟨ps1, l1, ls1, hob1, hlv1, hrow1, hpar1⟩ := hd1; obtain ⟨b1, d1, hu1⟩ := hrow1.len; subst hu1 hlv1; clear hq hsn1)) | refine zoS (fun _ => ?_) (fun _ => ?_) | refine zqS (fun _ => ?_) (fun _ => ?_) | refine zwS (fun _ => ?_) (fun _ => ?_))
  have hap1 := fun {m : Nat} R => papplyE_ok (m := m) (w0 := w) (le := lx1 ++ (l1 ++ ls1)) hLb hFb 2 (.slice a1 zO.rs.length c1, zO) lg.length (.slice b1 ps1.length d1) ps1 wz (hwl _ hob1).1 (hwl _ hob1).2 ⟨_, _, _, rfl⟩ ⟨_, _, _, rfl⟩ (fun w' hw hc => ⟨hw.oldr hx1 hc.fst, objs_at hw hrow1 hpar1 hc.snd⟩) R
  rw [hob1] at hap1
  simp only [hb1] at hap1
  repeat' (first | refine aw_seq ?_ | refine zz ?_ | refine zon fun _ => ?_ | refine zoa fun vr lr hr => ?_ | ((have hq := fun {m : Nat} R => hap1 (m := m) R; apply ao_callH (l := lb ++ (lx1 ++ (l1 ++ ls1))); exact wants_a; (exact oc_func rfl); (exact rfl); (exact cut_app cut_a cut_a); (rw [List.append_assoc]; exact hq _); rintro _ _ ⟨rd1, ld1, lb2, rfl, rfl, hLb2, -⟩; clear hq hap1)) | refine zoS (fun _ => ?_) (fun _ => ?_) | refine zqS (fun _ => ?_) (fun _ => ?_) | refine zwS (fun _ => ?_) (fun _ => ?_))
  repeat' (first | refine aw_seq ?_ | refine zz ?_ | refine zon fun _ => ?_ | refine zoa fun vr lr hr => ?_ | ((have hq := hsn2; apply ao_callD; exact wants_a; (exact oc_func rfl); (exact rfl); (intro w hw; exact hq w (lies_of hw (l := l) cut_a)); rintro _ _ ⟨x2, u2, lx2, lv2, rfl, rfl, hx2, hd2⟩; obtain ⟨a2, c2, hz2⟩ := hx2.len; subst hz2; obtain ⟨ps2, l2, ls2, hob2, hlv2, hrow2, hpar2⟩ := hd2; obtain ⟨b2, d2, hu2⟩ := hrow2.len; subst hu2 hlv2; clear hq hsn2)) | refine zoS (fun _ => ?_) (fun _ => ?_) | refine zqS (fun _ => ?_) (fun _ => ?_) | refine zwS (fun _ => ?_) (fun _ => ?_))
  have hap2 := fun {m : Nat} R => papplyE_ok (m := m) (w0 := w) (le := lx2 ++ (l2 ++ ls2)) hLc hFc 2 (.slice a2 zO.rs.length c2, zO) lg.length (.slice b2 ps2.length d2) ps2 wz (hwl _ hob2).1 (hwl _ hob2).2 ⟨_, _, _, rfl⟩ ⟨_, _, _, rfl⟩ (fun w' hw hc => ⟨hw.oldr hx2 hc.fst, objs_at hw hrow2 hpar2 hc.snd⟩) R
  rw [hob2] at hap2
  simp only [hc1] at hap2
  repeat' (first | refine aw_seq ?_ | refine zz ?_ | refine zon fun _ => ?_ | refine zoa fun vr lr hr => ?_ | ((have hq := fun {m : Nat} R => hap2 (m := m) R; apply ao_callH (l := lc ++ (lx2 ++ (l2 ++ ls2))); exact wants_a; (exact oc_func rfl); (exact rfl); (exact cut_app cut_a cut_a); (rw [List.append_assoc]; exact hq _); rintro _ _ ⟨rd2, ld2, lc2, rfl, rfl, hLc2, -⟩; clear hq hap2)) | refine zoS (fun _ => ?_) (fun _ => ?_) | refine zqS (fun _ => ?_) (fun _ => ?_) | refine zwS (fun _ => ?_) (fun _ => ?_))
  have hne : (!((snE lg.length == 0) == decide ((lg.length : Int) > 0))) = false := by
    unfold snE
    by_cases h0 : lg.length = 0
    · rw [if_pos h0, h0]; rfl
    · rw [if_neg h0, decide_eq_true (by omega)]; rfl
  have hoba := fun w' (hl : Lies w' la) => pobjects_ok hLa hFa w' hl
  have hobb := fun w' (hl : Lies w' lb2) => pobjects_ok hLb2 hfb w' hl
  have hobc := fun w' (hl : Lies w' lc2) => pobjects_ok hLc2 hfc w' hl
  rw [hTa.os] at hoba
  rw [hb2] at hobb
  rw [hc2] at hobc
  have hcm : ∀ {H R1 R2 k1 k2 kx k3 k4 : Hp} {v u : Value} {ps qs : List PO} (w' : World), RepH ⟨w.heap.size, w, Try.f5.ntmps⟩ H w' → RowB 38 8 v k1 ps.length (ps.flatMap cellsO) → Parts KO k2 ps → obs ps = osL lg → Cut H (k1 ++ k2) R1 → RowB 38 8 u k3 qs.length (qs.flatMap cellsO) → Parts KO k4 qs → obs qs = osL lg → Cut H (kx ++ (k3 ++ k4)) R2 →
      Calls Try.prog 26 #[v, u] w' fun e w'' => e = .returned (.bool true) ∧ Below w'.heap.size w' w'' := fun {_ _ _ _ _ _ _ _} {v u ps qs} w' hw r1 p1 h1 c1 r2 p2 h2 c2 => by
    have := Evt.robjs_ok v u ps qs (hwl _ h1).1 (hwl _ h2).1 w' (objs_at hw r1 p1 c1) (objs_at hw r2 p2 c2.snd)
    rwa [decide_eq_true (h1.trans h2.symm)] at this
  repeat' (first | refine aw_seq ?_ | refine zz ?_ | refine zon fun _ => ?_ | refine zoa fun vr lr hr => ?_ | ((first | apply ao_call | apply aq_call); exact wants_a; (first | exact oc_func rfl | exact oc_clos rfl rfl); (exact rfl); (first | exact fun w hw => hve w (lies_of hw (l := l) cut_a))) | ((have hq := hsn3; apply ao_callD; exact wants_a; (exact oc_func rfl); (exact rfl); (intro w hw; exact hq w (lies_of hw (l := l) cut_a)); rintro _ _ ⟨x3, u3, lx3, lv3, rfl, rfl, hx3, hd3⟩; obtain ⟨a3, c3, hz3⟩ := hx3.len; subst hz3; obtain ⟨ps3, l3, ls3, hob3, hlv3, hrow3, hpar3⟩ := hd3; obtain ⟨b3, d3, hu3⟩ := hrow3.len; subst hu3 hlv3; clear hq hsn3)) | refine zoS (fun _ => ?_) (fun _ => ?_) | refine zqS (fun _ => ?_) (fun _ => ?_) | refine zwS (fun _ => ?_) (fun _ => ?_))
  repeat' (first | refine aw_seq ?_ | refine zz ?_ | refine zon fun _ => ?_ | refine zoa fun vr lr hr => ?_ | ((have hq := hoba; apply ao_callD; exact wants_a; (exact oc_func rfl); (exact rfl); (intro w hw; exact hq w (lies_of hw (l := la) cut_a)); rintro va _ ⟨psa, la, lsa, hobsa, rfl, hrowa, hpara⟩; obtain ⟨ba, da, hua⟩ := hrowa.len; subst hua; clear hq hoba)) | refine zoS (fun _ => ?_) (fun _ => ?_) | refine zqS (fun _ => ?_) (fun _ => ?_) | refine zwS (fun _ => ?_) (fun _ => ?_))
  repeat' (first | refine aw_seq ?_ | refine zz ?_ | refine zon fun _ => ?_ | refine zoa fun vr lr hr => ?_ | ((first | apply ao_call | apply aq_call); exact wants_a; (first | exact oc_func rfl | exact oc_clos rfl rfl); (exact rfl); (first | exact fun w hw => hcm w hw hrowa hpara hobsa cut_a hrow3 hpar3 hob3 cut_a)) | ((have hq := hobb; apply ao_callD; exact wants_a; (exact oc_func rfl); (exact rfl); (intro w hw; exact hq w (lies_of hw (l := lb2) cut_a)); rintro vb _ ⟨psb, lb, lsb, hobsb, rfl, hrowb, hparb⟩; obtain ⟨bb, db, hub⟩ := hrowb.len; subst hub; clear hq hobb)) | refine zoS (fun _ => ?_) (fun _ => ?_) | refine zqS (fun _ => ?_) (fun _ => ?_) | refine zwS (fun _ => ?_) (fun _ => ?_))
  repeat' (first | refine aw_seq ?_ | refine zz ?_ | refine zon fun _ => ?_ | refine zoa fun vr lr hr => ?_ | ((first | apply ao_call | apply aq_call); exact wants_a; (first | exact oc_func rfl | exact oc_clos rfl rfl); (exact rfl); (first | exact fun w hw => hcm w hw hrowb hparb hobsb cut_a hrow3 hpar3 hob3 cut_a)) | ((have hq := hobc; apply ao_callD; exact wants_a; (exact oc_func rfl); (exact rfl); (intro w hw; exact hq w (lies_of hw (l := lc2) cut_a)); rintro vc _ ⟨psc, lc, lsc, hobsc, rfl, hrowc, hparc⟩; obtain ⟨bc, dc, huc⟩ := hrowc.len; subst huc; clear hq hobc)) | refine zoS (fun _ => ?_) (fun _ => ?_) | refine zqS (fun _ => ?_) (fun _ => ?_) | refine zwS (fun _ => ?_) (fun _ => ?_))
  repeat' (first | refine aw_seq ?_ | refine zz ?_ | refine zon fun _ => ?_ | refine zoa fun vr lr hr => ?_ | ((first | apply ao_call | apply aq_call); exact wants_a; (first | exact oc_func rfl | exact oc_clos rfl rfl); (exact rfl); (first | exact fun w hw => hcm w hw hrowc hparc hobsc cut_a hrow3 hpar3 hob3 cut_a | exact fun w hw => salive_ok w)) | refine zoS (fun _ => ?_) (fun _ => ?_) | refine zqS (fun _ => ?_) (fun _ => ?_) | refine zwS (fun _ => ?_) (fun _ => ?_))
  exact fun w' hw => ⟨rfl, hw.below⟩
end Stm
end Go.Proofs.Ytbllkmhkpapgeaa
