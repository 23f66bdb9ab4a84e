/- AuditDown, walked: all of a node is its own, and all of its children; conditions: none. -/
import Derived.Test.YtkjjlppfomidbaaGreatLap
import Derived.Test.YtkjjlppfomidbaaGreatVnext
namespace Go.Proofs.YtkjjlppfomidbaaGreat
namespace Aut
open Go Go.RowKit Sx Vec Ojt Scp Lct
attribute [local irreducible] Go.Calls
abbrev nNew : Tx := [110, 101, 119]
theorem fit_rem {t : Trt.Tr} (h : Trt.FitT t) {n : Tx} (hn : n.length ≤ 100) : Trt.FitT (Trt.removeT t n).2 := by
  have := Trt.fit_doT h 3 hn []
  rw [Trt.do_3 (by decide)] at this
  exact this
set_option maxHeartbeats 256000000 in
set_option maxRecDepth 20000 in
theorem down_ok (v0 v1 v2 : Value) (ss : List Sc) (os : List Evt.PO) (ac : List Trt.Ac) (hno : ∀ p ∈ os, numR p.2.rs) (hk : ∀ a ∈ ac, 0 ≤ a.kind) (w : World) (hv : ScsAt w v0 ss) (ho : Evt.ObjsAt w v1 os) (ha : OldRow w 3 v2 ac.length (ac.flatMap Trt.cellsA)) :
    Calls Tryz.prog 4 #[v0, v1, v2] w fun e w' => e = .returned (.bool true) ∧ Below w.heap.size w w' := by
  obtain ⟨a, cp, rfl, hat⟩ := OldRow.cells cellsSc_len hv.1
  have hfit := fun w' (hb : Below w.heap.size w w') => fits14_ok w' (hv.below hb) (ho.below hb) (OldRow.below ha hb)
  refine calls1 (args := [.slice a ss.length cp, v1, v2]) Tryz.func4 rfl rfl rfl rfl ?_
  cases hq : fit14 ss os ac
  · rw [hq] at hfit
    repeat' (first | refine aw_seq ?_ | refine zz ?_ | refine zon fun _ => ?_ | refine zoa fun vr lr hr => ?_ | ((first | apply ao_call | apply aq_call); exact wants_a; (first | exact oc_func rfl | exact oc_clos rfl rfl | exact oc_bnd rfl rfl); (exact rfl); (first | exact fun w hw => hfit w hw.below | exact fun w hw => alive_ok w)) | refine zoS (fun _ => ?_) (fun _ => ?_) | refine zqS (fun _ => ?_) (fun _ => ?_) | refine zwS (fun _ => ?_) (fun _ => ?_))
    exact fun w' hw => ⟨rfl, hw.below⟩
  rw [hq] at hfit
  obtain ⟨hsl, hws, hal, haf, hol, hwo⟩ := fit14_wf hq hno
  have hF : Trt.FitT (growT ac) := by have := grow_fit ac.length haf; rwa [List.take_length] at this
  have hgr := fun w' (hb : Below w.heap.size w w') => grown_ok w' (OldRow.below ha hb) hk (by omega) haf
  generalize growT ac = t at hF hgr
  by_cases hbad : rightScs (scT ss) = false ∨ (Evt.obs os).all rightO = false
  · have hfu := fun {gt : Nat} {lt : Hp} w' (hb : Below w.heap.size w w') (hT : Trt.LTr t gt lt) (hl : Lies w' lt) => auf_f (hv.below hb) hws hsl (ho.below hb) (by omega) hwo hT hF hl hbad
    repeat' (first | refine aw_seq ?_ | ((first | apply ao_val | apply aq_val); exact wants_a; (first | exact ov_peq0 rfl rfl | exact ov_a); (exact rfl)) | refine zy ?_ | refine zon fun _ => ?_ | refine zoa fun vr lr hr => ?_ | ((first | apply ao_call | apply aq_call); exact wants_a; (first | exact oc_func rfl | exact oc_clos rfl rfl | exact oc_bnd rfl rfl); (exact rfl); (first | exact fun w hw => hfit w hw.below | exact fun w hw => alive_ok w | exact fun w hw => hfu w hw.below hLt (lies_of hw (l := lt) (Cut.snd (l := lx) cut_a)))) | ((apply ao_callD; exact wants_a; (exact oc_func rfl); (exact rfl); (intro w hw; exact hgr w hw.below); rintro _ _ ⟨gt, gx, lt, lx, rfl, rfl, hLt, hRx⟩)) | refine zoS (fun _ => ?_) (fun _ => ?_) | refine zqS (fun _ => ?_) (fun _ => ?_) | refine zwS (fun _ => ?_) (fun _ => ?_))
    exact fun w' hw => ⟨rfl, hw.below⟩
  have hr : rightScs (scT ss) = true := by
    cases h : rightScs (scT ss)
    · exact absurd (.inl h) hbad
    · rfl
  have hro : (Evt.obs os).all rightO = true := by
    cases h : (Evt.obs os).all rightO
    · exact absurd (.inr h) hbad
    · rfl
  have h8 : ss.length ≤ 8 := by
    unfold rightScs at hr
    rw [Bool.and_eq_true, decide_eq_true_eq, List.length_map] at hr
    exact hr.2
  have hwl : ∀ o ∈ Evt.obs os, wfO o := fun o ho => by
    obtain ⟨p, hp, rfl⟩ := List.mem_map.1 ho
    exact hwo p hp
  obtain ⟨L, hL, hA⟩ := load_A (scs := scT ss) (by rw [List.length_map]; exact h8) (os := Evt.obs os) (by rw [List.length_map]; omega) hwl hro
  generalize (fun b n => cnt (scT ss) b n (Evt.obs os)) = f at hA
  have hfu := fun {gt : Nat} {lt : Hp} w' (hb : Below w.heap.size w w') (hT : Trt.LTr t gt lt) (hl : Lies w' lt) => auf_t (hv.below hb) hws hsl (ho.below hb) (by omega) hwo hT hF hl hr hL hA
  have htl := hF.len
  have hwt := hF.wf
  repeat' (first | refine aw_seq ?_ | ((first | apply ao_val | apply aq_val); exact wants_a; (first | exact ov_peqs rfl rfl | exact ov_a); (exact rfl)) | refine zy ?_ | refine zon fun _ => ?_ | refine zoa fun vr lr hr => ?_ | ((first | apply ao_call | apply aq_call); exact wants_a; (first | exact oc_func rfl | exact oc_clos rfl rfl | exact oc_bnd rfl rfl); (exact rfl); (first | exact fun w hw => hfit w hw.below)) | (apply ao_callr; exact wants_a; (exact oc_func rfl); (exact rfl); (first | exact fun w hw => Trt.tall_ok hLt hF w (lies_of hw (l := lt) (Cut.snd (l := lx) cut_a))); intro vr lr hr) | ((apply ao_callD; exact wants_a; (exact oc_func rfl); (exact rfl); (intro w hw; exact hgr w hw.below); rintro _ _ ⟨gt, gx, lt, lx, rfl, rfl, hLt, hRx⟩)) | ((apply ao_callD; exact wants_a; (exact oc_func rfl); (exact rfl); (intro w hw; exact hfu w hw.below hLt (lies_of hw (l := lt) (Cut.snd (l := lx) cut_a))); rintro _ lau ⟨g, rfl, hAu⟩)) | refine zoS (fun _ => ?_) (fun _ => ?_) | refine zqS (fun _ => ?_) (fun _ => ?_) | refine zwS (fun _ => ?_) (fun _ => ?_))
  revert vr lr hr
  intro va la ra
  clear hfit hgr hfu
  have how := fun s i w' (hl : Lies w' lau) => auown_ok hAu hA s i w' hl
  have hal := fun s i w' (hl : Lies w' lau) => auall_ok hAu hA s i w' hl
  have hov := fun s i w' (hl : Lies w' lau) => auover_ok hAu hA s i w' hl
  have hch := fun s w' (hl : Lies w' lt) => Trt.tchild_ok hLt hF s w' hl
  have hal_wf := fun s i => hA.wf (hA.all t (by omega) s i) (by unfold Trt.belowT; rw [List.length_map]; exact Nat.le_trans (List.length_filter_le _ _) (by omega))
  have hnl : (t.map (·.1)).length = t.length := List.length_map _
  refine aw_forH (t0 := [(0, .slice a ss.length cp), (8, .pointer (some ⟨gt, 0, none⟩)), (10, .pointer (some ⟨g, 0, none⟩)), (12, va), (13, I (0 : Nat))]) (H0 := la ++ (lau ++ ((lx ++ lt) ++ []))) (fun q tm H => ∃ k : Nat, q = ss.length - k ∧ k ≤ ss.length ∧ tm = [(0, .slice a ss.length cp), (8, .pointer (some ⟨gt, 0, none⟩)), (10, .pointer (some ⟨g, 0, none⟩)), (12, va), (13, I k)] ∧ H = la ++ (lau ++ ((lx ++ lt) ++ [])))
    ⟨0, rfl, by omega, rfl, rfl⟩ (by repeat (first | exact sub_nil | refine sub_cons rfl ?_)) hsub_a ?_
  rintro q tm H ⟨k, rfl, hkk, rfl, rfl⟩
  by_cases hkl : k < ss.length
  · repeat' (first | refine aw_seq ?_ | refine zz ?_ | refine zon fun _ => ?_ | refine zoa fun vr lr hr => ?_ | refine zoS (fun _ => ?_) (fun _ => ?_) | refine zqS (fun _ => ?_) (fun _ => ?_) | refine zwS (fun _ => ?_) (fun _ => ?_))
    refine aw_for (t0 := [(0, .slice a ss.length cp), (8, .pointer (some ⟨gt, 0, none⟩)), (10, .pointer (some ⟨g, 0, none⟩)), (12, va), (13, I k), (14, .slice none 0 0), (15, I (0 : Nat))]) (fun q tm H => ∃ (i : Nat) (v : List Ent) (vt : Value) (lv : Hp), q = (t.map (·.1)).length - i ∧ i ≤ (t.map (·.1)).length ∧ IsV v (fun n => sumL (fun x => f (x, (k : Int)) n) ((t.map (·.1)).take i)) ∧ RowB 96 3 vt lv v.length (vcells v) ∧
        tm = [(0, .slice a ss.length cp), (8, .pointer (some ⟨gt, 0, none⟩)), (10, .pointer (some ⟨g, 0, none⟩)), (12, va), (13, I k), (14, vt), (15, I i)] ∧ H = lv ++ (la ++ (lau ++ ((lx ++ lt) ++ []))))
      ⟨0, [], _, [], rfl, Nat.zero_le _, ⟨rfl, fun n => rfl⟩, RowB.nil, rfl, rfl⟩ (by repeat (first | exact sub_nil | refine sub_cons rfl ?_)) ?_
    rintro q tm H ⟨i, v, vt, lv, rfl, hi, hV, hrv, rfl, rfl⟩
    by_cases hil : i < (t.map (·.1)).length
    · obtain ⟨s, hs⟩ := Lct.getP hil
      have hsm : s ∈ t.map (·.1) := List.mem_of_getElem? hs
      have hhs : Trt.hasT t s = true := by
        obtain ⟨e, he, e1⟩ := List.mem_map.1 hsm
        exact Trt.has_iff.2 ⟨e, he, e1⟩
      obtain ⟨gB, capB, csB, e1, e2, hcB⟩ := RowB.cells Trt.cells1_len ra hs
      have cS : csB[0 + (i : Int).toNat * 1]? = some (S s) := hcB 0 _ rfl
      have ht1 : (t.map (·.1)).take (i + 1) = (t.map (·.1)).take i ++ [s] := by rw [List.take_add_one, hs]; rfl
      have htk := List.length_take_le i (t.map (·.1))
      obtain ⟨wv, wl⟩ := hA.wf hV (by omega)
      have h1 := hA.single s (k : Int)
      obtain ⟨ws1, wl1⟩ := hA.wf h1 (by simp)
      obtain ⟨v2, ev2, hV2⟩ := hA.add hV h1 (by simp; omega)
      rw [← ht1] at hV2
      have hadd := fun u1 u2 w' h1 h2 => vadd_ok u1 u2 v (getS L (s, (k : Int))) wv ws1 (by omega) (by omega) w' h1 h2
      rw [ev2] at hadd
      have hown := how s (k : Int)
      have hI0 : IsV (getS L (s, (k : Int))) (fun n => f (s, (k : Int)) n + sumL (fun c => sumL (fun x => f (x, (k : Int)) n) (Trt.belowT t c)) ((Trt.childT t s).take 0)) := (hA.one (s, (k : Int))).congr fun n => by simp [sumL]
      generalize getS L (s, (k : Int)) = ow at hown hadd hI0
      have hcs := hch s
      have hcl : (Trt.childT t s).length ≤ 200 := by unfold Trt.childT; rw [List.length_map]; exact Nat.le_trans (List.length_filter_le _ _) (by omega)
      have hcm : ∀ c ∈ Trt.childT t s, vfitsB (allA L t c (k : Int)) = false → vfitsB (allA L t s (k : Int)) = false := fun c hc => over_up hA hwt htl hhs hc
      have hend := fun u (hu : IsV u (fun n => f (s, (k : Int)) n + sumL (fun c => sumL (fun x => f (x, (k : Int)) n) (Trt.belowT t c)) (Trt.childT t s))) => sum_is hA hwt htl hhs hu
      have hstep := fun u n c (hn : (Trt.childT t s)[n]? = some c) (hu : IsV u (fun m => f (s, (k : Int)) m + sumL (fun c => sumL (fun x => f (x, (k : Int)) m) (Trt.belowT t c)) ((Trt.childT t s).take n))) => step_is hA htl (c := c) (by rw [List.length_take]; omega) hu
      have hswf := fun u n (hu : IsV u (fun m => f (s, (k : Int)) m + sumL (fun c => sumL (fun x => f (x, (k : Int)) m) (Trt.belowT t c)) ((Trt.childT t s).take n))) => step_wf hA htl (by rw [List.length_take]; omega) hu
      have htkc := fun (n : Nat) c (hn : (Trt.childT t s)[n]? = some c) => show (Trt.childT t s).take (n + 1) = (Trt.childT t s).take n ++ [c] by rw [List.take_add_one, hn]; rfl
      have hals := hal s (k : Int)
      have hovs := hov s (k : Int)
      have hwfs := hal_wf s (k : Int)
      generalize allA L t s (k : Int) = As at hcm hend hals hovs hwfs
      subst e1
      subst e2
      repeat' (first | refine aw_seq ?_ | refine zz ?_ | refine zon fun _ => ?_ | refine zoa fun vr lr hr => ?_ | (apply ao_callr; exact wants_a; (exact oc_func rfl); (exact rfl); (first | exact fun w hw => hown w (lies_of hw (l := lau) cut_a)); intro vr lr hr) | refine zoS (fun _ => ?_) (fun _ => ?_) | refine zqS (fun _ => ?_) (fun _ => ?_) | refine zwS (fun _ => ?_) (fun _ => ?_))
      revert vr lr hr
      intro vo lo ro
      repeat' (first | refine aw_seq ?_ | refine zz ?_ | refine zon fun _ => ?_ | refine zoa fun vr lr hr => ?_ | (apply ao_callr2; exact wants_a; (exact oc_func rfl); (exact rfl); (first | exact fun w hw => hadd _ _ w (hw.oldr hrv cut_a) (hw.oldr ro cut_a)); intro vr lr hr) | refine zoS (fun _ => ?_) (fun _ => ?_) | refine zqS (fun _ => ?_) (fun _ => ?_) | refine zwS (fun _ => ?_) (fun _ => ?_))
      revert vr lr hr
      intro vt2 lt2 rt2
      repeat' (first | refine aw_seq ?_ | refine zz ?_ | refine zon fun _ => ?_ | refine zoa fun vr lr hr => ?_ | (apply ao_callr; exact wants_a; (exact oc_func rfl); (exact rfl); (first | exact fun w hw => hcs w (lies_of hw (l := lt) (Cut.snd (l := lx) cut_a))); intro vr lr hr) | refine zoS (fun _ => ?_) (fun _ => ?_) | refine zqS (fun _ => ?_) (fun _ => ?_) | refine zwS (fun _ => ?_) (fun _ => ?_))
      revert vr lr hr
      intro vc lc rc
      generalize hCd : Trt.childT t s = cd at rc hcl hcm hend hstep hswf htkc hI0
      repeat' (first | refine aw_seq ?_ | refine zz ?_ | refine zon fun _ => ?_ | refine zoa fun vr lr hr => ?_ | refine zoS (fun _ => ?_) (fun _ => ?_) | refine zqS (fun _ => ?_) (fun _ => ?_) | refine zwS (fun _ => ?_) (fun _ => ?_))
      refine aw_forH (t0 := [(0, .slice a ss.length cp), (8, .pointer (some ⟨gt, 0, none⟩)), (10, .pointer (some ⟨g, 0, none⟩)), (12, .slice (some ⟨gB, 0, none⟩) (t.map (·.1)).length capB), (13, I k), (14, vt2), (15, I i), (16, S s), (17, vo), (19, I 0), (20, vc), (21, I (0 : Nat))]) (H0 := lc ++ (lt2 ++ (lo ++ ([(gB, .cells csB.toArray 9 (0, 0))] ++ (lau ++ ((lx ++ lt) ++ [])))))) (fun q tm H => ∃ (n : Nat) (u : List Ent) (vu : Value) (lu : Hp), q = cd.length - n ∧ n ≤ cd.length ∧ IsV u (fun m => f (s, (k : Int)) m + sumL (fun c => sumL (fun x => f (x, (k : Int)) m) (Trt.belowT t c)) (cd.take n)) ∧ RowB 96 3 vu lu u.length (vcells u) ∧
          tm = [(0, .slice a ss.length cp), (8, .pointer (some ⟨gt, 0, none⟩)), (10, .pointer (some ⟨g, 0, none⟩)), (12, .slice (some ⟨gB, 0, none⟩) (t.map (·.1)).length capB), (13, I k), (14, vt2), (15, I i), (16, S s), (17, vu), (19, I 0), (20, vc), (21, I n)] ∧ H.Perm (lu ++ (lc ++ (lt2 ++ ([(gB, .cells csB.toArray 9 (0, 0))] ++ (lau ++ ((lx ++ lt) ++ [])))))))
        ⟨0, ow, vo, lo, rfl, Nat.zero_le _, hI0, ro, rfl, by classical exact List.perm_iff_count.2 fun z => by simp only [List.count_append]; omega⟩ (by repeat (first | exact sub_nil | refine sub_cons rfl ?_)) hsub_a ?_
      rintro q tm H ⟨n, u, vu, lu, rfl, hnn, hU, hru, rfl, hp⟩
      refine aw_permH hp ?_
      clear hp
      by_cases hnl : n < cd.length
      · obtain ⟨c, hc⟩ := Lct.getP hnl
        have hcmc := hcm c (List.mem_of_getElem? hc)
        obtain ⟨u2, ev3, hU2⟩ := hstep u n c hc hU
        rw [← htkc n c hc] at hU2
        obtain ⟨wu, wul⟩ := hswf u n hU
        obtain ⟨wac, wacl⟩ := hal_wf c (k : Int)
        have halc := hal c (k : Int)
        have hovc := hov c (k : Int)
        have haddc := fun u1 w' h1 h2 => vadd_ok vu u1 u (allA L t c (k : Int)) wu wac (by omega) (by omega) w' h1 h2
        rw [ev3] at haddc
        generalize allA L t c (k : Int) = Ac at hcmc halc hovc haddc
        obtain ⟨gC, capC, csC, e3, e4, hcC⟩ := RowB.cells Trt.cells1_len rc hc
        have cC : csC[0 + (n : Int).toNat * 1]? = some (S c) := hcC 0 _ rfl
        subst e3
        subst e4
        have hover : ((!(vfitsB Ac)) = true ∧ vfitsB As = false) ∨ (!(vfitsB Ac)) = false := by
          cases h : vfitsB Ac
          · exact .inl ⟨rfl, hcmc h⟩
          · exact .inr rfl
        repeat' (first | refine aw_seq ?_ | refine zz ?_ | refine zon fun _ => ?_ | refine zoa fun vr lr hr => ?_ | (apply ao_callr; exact wants_a; (exact oc_func rfl); (exact rfl); (first | exact fun w hw => halc w (lies_of hw (l := lau) cut_a)); intro vr lr hr) | refine zoS (fun _ => ?_) (fun _ => ?_) | refine zqS (fun _ => ?_) (fun _ => ?_) | refine zwS (fun _ => ?_) (fun _ => ?_))
        revert vr lr hr
        intro vac lac rac
        rcases hover with ⟨ho1, ho2⟩ | ho1
        · rw [ho1] at hovc
          rw [ho2] at hovs
          repeat' (first | refine aw_seq ?_ | refine zz ?_ | refine zon fun _ => ?_ | refine zoa fun vr lr hr => ?_ | ((first | apply ao_call | apply aq_call); exact wants_a; (first | exact oc_func rfl | exact oc_clos rfl rfl | exact oc_bnd rfl rfl); (exact rfl); (first | exact fun w hw => hovc w (lies_of hw (l := lau) cut_a) | exact fun w hw => hovs w (lies_of hw (l := lau) cut_a))) | (apply ao_callr2; exact wants_a; (exact oc_func rfl); (exact rfl); (first | exact fun w hw => haddc _ w (hw.oldr hru cut_a) (hw.oldr rac cut_a)); intro vr lr hr) | refine zoS (fun _ => ?_) (fun _ => ?_) | refine zqS (fun _ => ?_) (fun _ => ?_) | refine zwS (fun _ => ?_) (fun _ => ?_))
          exact lq_normal' (H' := lr ++ ([(gC, .cells csC.toArray 9 (0, 0))] ++ (lt2 ++ ([(gB, .cells csB.toArray 9 (0, 0))] ++ (lau ++ ((lx ++ lt) ++ [])))))) ⟨n + 1, u2, vr, lr, rfl, by omega, hU2, hr, rfl, List.Perm.refl _⟩ (by omega) (by repeat (first | exact sub_nil | refine sub_cons rfl ?_)) hsub_a
        · rw [ho1] at hovc
          repeat' (first | refine aw_seq ?_ | refine zz ?_ | refine zon fun _ => ?_ | refine zoa fun vr lr hr => ?_ | ((first | apply ao_call | apply aq_call); exact wants_a; (first | exact oc_func rfl | exact oc_clos rfl rfl | exact oc_bnd rfl rfl); (exact rfl); (first | exact fun w hw => hovc w (lies_of hw (l := lau) cut_a) | exact fun w hw => hovs w (lies_of hw (l := lau) cut_a))) | (apply ao_callr2; exact wants_a; (exact oc_func rfl); (exact rfl); (first | exact fun w hw => haddc _ w (hw.oldr hru cut_a) (hw.oldr rac cut_a)); intro vr lr hr) | refine zoS (fun _ => ?_) (fun _ => ?_) | refine zqS (fun _ => ?_) (fun _ => ?_) | refine zwS (fun _ => ?_) (fun _ => ?_))
          exact lq_normal' (H' := lr ++ ([(gC, .cells csC.toArray 9 (0, 0))] ++ (lt2 ++ ([(gB, .cells csB.toArray 9 (0, 0))] ++ (lau ++ ((lx ++ lt) ++ [])))))) ⟨n + 1, u2, vr, lr, rfl, by omega, hU2, hr, rfl, List.Perm.refl _⟩ (by omega) (by repeat (first | exact sub_nil | refine sub_cons rfl ?_)) hsub_a
      · obtain rfl : n = cd.length := by omega
        rw [List.take_length] at hU
        have eU := hend u hU
        subst eU
        obtain ⟨wu, wul⟩ := hwfs
        have hsv := fun u1 u2 w' h1 h2 => show Calls Tryz.prog 12 #[u1, u2] w' fun e w'' => e = .returned (.bool true) ∧ Below w'.heap.size w' w'' by
          have := Vec.vsame_ok u1 u2 u u wu wu w' h1 h2
          rwa [beq_self_eq_true] at this
        have hpf := fun v w' hv => pfits_ok v u wu w' hv
        have hne : ((!(vfitsB u)) == vfitsB u) = false := by cases vfitsB u <;> rfl
        repeat' (first | refine aw_seq ?_ | ((first | apply ao_val | apply aq_val); exact wants_a; (first | exact ov_lenr rfl rc | exact ov_a); (exact rfl)) | refine zy ?_ | refine zon fun _ => ?_ | refine zoa fun vr lr hr => ?_ | ((first | apply ao_call | apply aq_call); exact wants_a; (first | exact oc_func rfl | exact oc_clos rfl rfl | exact oc_bnd rfl rfl); (exact rfl); (first | exact fun w hw => hsv _ _ w (hw.oldr hru cut_a) (hw.oldr (by assumption) cut_a) | exact fun w hw => hovs w (lies_of hw (l := lau) cut_a) | exact fun w hw => hpf _ w (hw.oldr (by assumption) cut_a))) | (apply ao_callr; exact wants_a; (exact oc_func rfl); (exact rfl); (first | exact fun w hw => hals w (lies_of hw (l := lau) cut_a)); intro vr lr hr) | refine zoS (fun _ => ?_) (fun _ => ?_) | refine zqS (fun _ => ?_) (fun _ => ?_) | refine zwS (fun _ => ?_) (fun _ => ?_))
        exact lq_normal' (H' := lt2 ++ ([(gB, .cells csB.toArray 9 (0, 0))] ++ (lau ++ ((lx ++ lt) ++ [])))) ⟨i + 1, v2, vt2, lt2, rfl, by omega, hV2, rt2, rfl, rfl⟩ (by omega) (by repeat (first | exact sub_nil | refine sub_cons rfl ?_)) hsub_a
    · obtain rfl : i = (t.map (·.1)).length := by omega
      rw [List.take_length] at hV
      have eV := root_is hA hwt htl hV
      have hroot := hal Trt.rootN (k : Int)
      obtain ⟨wv, wvl⟩ := hal_wf Trt.rootN (k : Int)
      rw [← eV] at hroot wv
      have hsv := fun u1 u2 w' h1 h2 => show Calls Tryz.prog 12 #[u1, u2] w' fun e w'' => e = .returned (.bool true) ∧ Below w'.heap.size w' w'' by
        have := Vec.vsame_ok u1 u2 v v wv wv w' h1 h2
        rwa [beq_self_eq_true] at this
      repeat' (first | refine aw_seq ?_ | ((first | apply ao_val | apply aq_val); exact wants_a; (first | exact ov_lenr rfl ra | exact ov_a); (exact rfl)) | refine zy ?_ | refine zon fun _ => ?_ | refine zoa fun vr lr hr => ?_ | ((first | apply ao_call | apply aq_call); exact wants_a; (first | exact oc_func rfl | exact oc_clos rfl rfl | exact oc_bnd rfl rfl); (exact rfl); (first | exact fun w hw => hsv _ _ w (hw.oldr hrv cut_a) (hw.oldr (by assumption) cut_a))) | (apply ao_callr; exact wants_a; (exact oc_func rfl); (exact rfl); (first | exact fun w hw => hroot w (lies_of hw (l := lau) cut_a)); intro vr lr hr) | refine zoS (fun _ => ?_) (fun _ => ?_) | refine zqS (fun _ => ?_) (fun _ => ?_) | refine zwS (fun _ => ?_) (fun _ => ?_))
      exact lq_normal' (H' := la ++ (lau ++ ((lx ++ lt) ++ []))) ⟨k + 1, rfl, by omega, rfl, rfl⟩ (by omega) (by repeat (first | exact sub_nil | refine sub_cons rfl ?_)) hsub_a
  · obtain rfl : k = ss.length := by omega
    repeat' (first | refine aw_seq ?_ | refine zz ?_ | refine zon fun _ => ?_ | refine zoa fun vr lr hr => ?_ | refine zoS (fun _ => ?_) (fun _ => ?_) | refine zqS (fun _ => ?_) (fun _ => ?_) | refine zwS (fun _ => ?_) (fun _ => ?_))
    refine aw_forH (t0 := [(8, .pointer (some ⟨gt, 0, none⟩)), (10, .pointer (some ⟨g, 0, none⟩)), (12, va), (26, I (0 : Nat))]) (H0 := la ++ (lau ++ (lt ++ []))) (fun q tm H => ∃ (i : Nat) (t2 : Trt.Tr) (lt2 : Hp), q = (t.map (·.1)).length - i ∧ i ≤ (t.map (·.1)).length ∧ Trt.LTr t2 gt lt2 ∧ Trt.FitT t2 ∧ tm = [(8, .pointer (some ⟨gt, 0, none⟩)), (10, .pointer (some ⟨g, 0, none⟩)), (12, va), (26, I i)] ∧ H.Perm (lt2 ++ (la ++ (lau ++ []))))
      ⟨0, t, lt, rfl, Nat.zero_le _, hLt, hF, rfl, by classical exact List.perm_iff_count.2 fun z => by simp only [List.count_append]; omega⟩ (by repeat (first | exact sub_nil | refine sub_cons rfl ?_)) (List.Sublist.append (List.Sublist.refl la) (List.Sublist.append (List.Sublist.refl lau) (List.Sublist.append (List.sublist_append_right lx lt) (List.Sublist.refl [])))) ?_
    rintro q tm H ⟨i, t2, lt2, rfl, hi, hL2, hF2, rfl, hp⟩
    refine aw_permH hp ?_
    clear hp
    by_cases hil : i < (t.map (·.1)).length
    · obtain ⟨s, hs⟩ := Lct.getP hil
      have hsl2 : s.length ≤ 100 := by
        obtain ⟨e, he, e1⟩ := List.mem_map.1 (List.mem_of_getElem? hs)
        rw [← e1]
        exact hF.nm e he
      obtain ⟨gB, capB, csB, e1, e2, hcB⟩ := RowB.cells Trt.cells1_len ra hs
      have cS : csB[0 + (i : Int).toNat * 1]? = some (S s) := hcB 0 _ rfl
      subst e1
      subst e2
      have hrm := fun m R => Trt.tremove_ok (m := m) (w0 := w) hL2 hF2 s R
      unfold Trt.LDid at hrm
      have hF3 := fit_rem hF2 hsl2
      generalize Trt.removeT t2 s = X at hrm hF3
      obtain ⟨er, t3⟩ := X
      simp only at hrm hF3
      repeat' (first | refine aw_seq ?_ | refine zz ?_ | refine zon fun _ => ?_ | refine zoa fun vr lr hr => ?_ | ((apply ao_callH (l := lt2); exact wants_a; (exact oc_func rfl); (exact rfl); (exact cut_a); (exact hrm _ _); rintro _ _ ⟨rfl, lt3, rfl, hL3⟩)) | refine zoS (fun _ => ?_) (fun _ => ?_) | refine zqS (fun _ => ?_) (fun _ => ?_) | refine zwS (fun _ => ?_) (fun _ => ?_))
      exact lq_normal' (H' := lt3 ++ ([(gB, .cells csB.toArray 9 (0, 0))] ++ (lau ++ []))) ⟨i + 1, t3, lt3, rfl, by omega, hL3, hF3, rfl, List.Perm.refl _⟩ (by omega) (by repeat (first | exact sub_nil | refine sub_cons rfl ?_)) hsub_a
    · obtain rfl : i = (t.map (·.1)).length := by omega
      have hcr := fun m R => Trt.tcreate_ok (m := m) (w0 := w) hL2 hF2 nNew Trt.rootN (by decide) R
      unfold Trt.LDid at hcr
      generalize Trt.createT (Lab.rightB nNew) t2 nNew Trt.rootN = X at hcr
      obtain ⟨er, t3⟩ := X
      simp only at hcr
      have hin := fun v w' hv => Trt.rin_ok (t.map (·.1)) (by omega) nNew v w' hv
      have haln := hal nNew 0
      by_cases hhad : nNew ∈ t.map (·.1)
      · rw [decide_eq_true hhad] at hin
        repeat' (first | refine aw_seq ?_ | ((first | apply ao_val | apply aq_val); exact wants_a; (first | exact ov_lenr rfl ra | exact ov_a); (exact rfl)) | refine zy ?_ | refine zon fun _ => ?_ | refine zoa fun vr lr hr => ?_ | ((first | apply ao_call | apply aq_call); exact wants_a; (first | exact oc_func rfl | exact oc_clos rfl rfl | exact oc_bnd rfl rfl); (exact rfl); (first | exact fun w hw => alive_ok w | exact fun w hw => hin _ w (hw.oldr ra cut_a))) | ((apply ao_callH (l := lt2); exact wants_a; (exact oc_func rfl); (exact rfl); (exact cut_a); (exact hcr _ _); rintro _ _ ⟨rfl, lt3, rfl, hL3⟩)) | refine zoS (fun _ => ?_) (fun _ => ?_) | refine zqS (fun _ => ?_) (fun _ => ?_) | refine zwS (fun _ => ?_) (fun _ => ?_))
        exact fun w' hw => ⟨rfl, hw.below⟩
      · rw [decide_eq_false hhad] at hin
        rw [none_is (L := L) (t := t) (s := nNew) 0 fun e he hm => hhad (by
          obtain ⟨h1, -, -⟩ := hwt.mem_path _ e he (Nat.le_refl _) nNew hm
          obtain ⟨y, hy, e1⟩ := Trt.has_iff.1 h1
          exact List.mem_map.2 ⟨y, hy, e1⟩)] at haln
        repeat' (first | refine aw_seq ?_ | ((first | apply ao_val | apply aq_val); exact wants_a; (first | exact ov_lenr rfl ra | exact ov_lenr rfl (by assumption) | exact ov_a); (exact rfl)) | refine zy ?_ | refine zon fun _ => ?_ | refine zoa fun vr lr hr => ?_ | ((first | apply ao_call | apply aq_call); exact wants_a; (first | exact oc_func rfl | exact oc_clos rfl rfl | exact oc_bnd rfl rfl); (exact rfl); (first | exact fun w hw => alive_ok w | exact fun w hw => hin _ w (hw.oldr ra cut_a))) | (apply ao_callr; exact wants_a; (exact oc_func rfl); (exact rfl); (first | exact fun w hw => haln w (lies_of hw (l := lau) cut_a)); intro vr lr hr) | ((apply ao_callH (l := lt2); exact wants_a; (exact oc_func rfl); (exact rfl); (exact cut_a); (exact hcr _ _); rintro _ _ ⟨rfl, lt3, rfl, hL3⟩)) | refine zoS (fun _ => ?_) (fun _ => ?_) | refine zqS (fun _ => ?_) (fun _ => ?_) | refine zwS (fun _ => ?_) (fun _ => ?_))
        exact fun w' hw => ⟨rfl, hw.below⟩
end Aut
end Go.Proofs.YtkjjlppfomidbaaGreat
