/- Contracts of the document's answer for layers 5 and 7: lists of objects; Right, Version, Same; conditions: names of at most 1,000 bytes, at most 100,000 objects and resources. -/
import Derived.Test.YtboimmfegeinaaaGreatEvn
namespace Go.Proofs.YtboimmfegeinaaaGreat
namespace Evt
open Go Go.RowKit Sx Lab Vec Ojt
attribute [local irreducible] Go.Calls

theorem robjs_len {ps qs : List PO} (h : obs ps = obs qs) : ps.length = qs.length := by
  have := congrArg List.length h
  rw [List.length_map, List.length_map] at this
  exact this
set_option maxHeartbeats 16000000 in
theorem robjs_ok (v u : Value) (ps qs : List PO) (hw1 : wfL ps) (hw2 : wfL qs) (w : World) (hv : ObjsAt w v ps) (hu : ObjsAt w u qs) : Calls Tryz.prog 10 #[v, u] w fun e w' => e = .returned (.bool (decide (obs ps = obs qs))) ∧ Below w.heap.size w w' := by
  have hln := hw1.1
  have hln2 := hw2.1
  obtain ⟨a, c, rfl, hat⟩ := OldRow.cells cellsO_len hv.1
  obtain ⟨a2, c2, rfl, hat2⟩ := OldRow.cells cellsO_len hu.1
  refine calls1 (args := [.slice a ps.length c, .slice a2 qs.length c2]) Tryz.func10 rfl rfl rfl rfl ?_
  by_cases hlen : ps.length = qs.length
  · rw [← hlen]
    have hle : ((ps.length : Int) != (ps.length : Int)) = false := bne_self_eq_false _
    repeat' (first | refine aw_seq ?_ | refine zz ?_ | refine zon fun _ => ?_ | refine zoa fun vr lr hr => ?_ | refine zoS (fun _ => ?_) (fun _ => ?_) | refine zqS (fun _ => ?_) (fun _ => ?_) | refine zwS (fun _ => ?_) (fun _ => ?_))
    refine aw_for (t0 := [(0, .slice a ps.length c), (1, .slice a2 ps.length c2), (5, I (0 : Nat))]) (fun q t H => ∃ (i : Nat), q = ps.length - i ∧ i ≤ ps.length ∧ (obs ps).take i = (obs qs).take i ∧ t = [(0, .slice a ps.length c), (1, .slice a2 ps.length c2), (5, I i)] ∧ H = []) ⟨0, rfl, by omega, rfl, rfl, rfl⟩ (by repeat (first | exact sub_nil | refine sub_cons rfl ?_)) ?_
    rintro q t H ⟨i, rfl, hi, htake, rfl, rfl⟩
    by_cases hlt : i < ps.length
    · obtain ⟨⟨x, o⟩, he⟩ := getP hlt
      obtain ⟨⟨y, p⟩, hf⟩ := getP (show i < qs.length by omega)
      obtain ⟨g, o1, rfl, hg, hc⟩ := hat i _ (i : Int) he rfl
      obtain ⟨g2, o2, rfl, hg2, hc2⟩ := hat2 i _ (i : Int) hf rfl
      have cA : ∀ (j : Nat) z, [S o.k, S o.s, S o.n, I o.ver, S o.c, .bool o.tm, .bool o.bs, x][j]? = some z → w.cell? ⟨g, o1 + (i : Int).toNat * 8 + j, none⟩ = some z := hc
      have cB : ∀ (j : Nat) z, [S p.k, S p.s, S p.n, I p.ver, S p.c, .bool p.tm, .bool p.bs, y][j]? = some z → w.cell? ⟨g2, o2 + (i : Int).toNat * 8 + j, none⟩ = some z := hc2
      have m1 := List.mem_of_getElem? he
      have m2 := List.mem_of_getElem? hf
      have t1 : (obs ps)[i]? = some o := by rw [List.getElem?_map, he]; rfl
      have t2 : (obs qs)[i]? = some p := by rw [List.getElem?_map, hf]; rfl
      have hs := fun w' (hb : Below w.heap.size w w') => rsame_ok o p x y (hw1.2 _ m1).wfO (hw2.2 _ m2).wfO w' ((hv.2 _ m1).below hb) ((hu.2 _ m2).below hb)
      rw [same_eq] at hs
      by_cases hop : o = p
      · subst hop
        rw [decide_eq_true rfl] at hs
        repeat' (first | refine aw_seq ?_ | ((first | apply ao_val | apply aq_val); exact wants_a; (first | exact ov_load_oa rfl hg cA rfl | exact ov_load_oa rfl hg2 cB rfl | exact ov_a); (exact rfl)) | refine zy ?_ | refine zon fun _ => ?_ | refine zoa fun vr lr hr => ?_ | ((first | apply ao_call | apply aq_call); exact wants_a; (first | exact oc_func rfl | exact oc_clos rfl rfl); (exact rfl); (first | exact fun w hw => hs w hw.below)) | refine zoS (fun _ => ?_) (fun _ => ?_) | refine zqS (fun _ => ?_) (fun _ => ?_) | refine zwS (fun _ => ?_) (fun _ => ?_))
        exact lq_normal ⟨i + 1, rfl, by omega, by rw [List.take_add_one, List.take_add_one, htake, t1, t2], rfl, rfl⟩ (by omega) (by repeat (first | exact sub_nil | refine sub_cons rfl ?_))
      · rw [decide_eq_false hop] at hs
        rw [decide_eq_false fun h => by rw [h, t2] at t1; exact hop (Option.some.inj t1).symm]
        repeat' (first | refine aw_seq ?_ | ((first | apply ao_val | apply aq_val); exact wants_a; (first | exact ov_load_oa rfl hg cA rfl | exact ov_load_oa rfl hg2 cB rfl | exact ov_a); (exact rfl)) | refine zy ?_ | refine zon fun _ => ?_ | refine zoa fun vr lr hr => ?_ | ((first | apply ao_call | apply aq_call); exact wants_a; (first | exact oc_func rfl | exact oc_clos rfl rfl); (exact rfl); (first | exact fun w hw => hs w hw.below)) | refine zoS (fun _ => ?_) (fun _ => ?_) | refine zqS (fun _ => ?_) (fun _ => ?_) | refine zwS (fun _ => ?_) (fun _ => ?_))
        exact fun w' hw => ⟨rfl, hw.below⟩
    · obtain rfl : i = ps.length := by omega
      have l1 : (obs ps).length = ps.length := List.length_map _
      have l2 : (obs qs).length = qs.length := List.length_map _
      rw [decide_eq_true (by rw [← l1, List.take_length, l1, hlen, ← l2, List.take_length] at htake; exact htake)]
      repeat' (first | refine aw_seq ?_ | refine zz ?_ | refine zon fun _ => ?_ | refine zoa fun vr lr hr => ?_ | refine zoS (fun _ => ?_) (fun _ => ?_) | refine zqS (fun _ => ?_) (fun _ => ?_) | refine zwS (fun _ => ?_) (fun _ => ?_))
      exact fun w' hw => ⟨rfl, hw.below⟩
  · have hle : ((ps.length : Int) != (qs.length : Int)) = true := bne_iff_ne.2 (by omega)
    rw [decide_eq_false fun h => hlen (robjs_len h)]
    repeat' (first | refine aw_seq ?_ | refine zz ?_ | refine zon fun _ => ?_ | refine zoa fun vr lr hr => ?_ | refine zoS (fun _ => ?_) (fun _ => ?_) | refine zqS (fun _ => ?_) (fun _ => ?_) | refine zwS (fun _ => ?_) (fun _ => ?_))
    exact fun w' hw => ⟨rfl, hw.below⟩

set_option maxHeartbeats 32000000 in
theorem rright_ok (kind : Int) (p : PO) (ver : Int) (v : Value) (ps : List PO) (hwo : wfS p.2) (hwf : wfL ps) (w : World) (ho : ResAt w p.1 p.2.rs) (hv : ObjsAt w v ps) :
    Calls Tryz.prog 42 #[EV kind p ver v] w fun e w' => e = .returned (.bool (rightE kind p.2 ver (obs ps))) ∧ Below w.heap.size w w' := by
  have hln := hwf.1
  obtain ⟨x, o⟩ := p
  obtain ⟨k, s, n, over, c, tm, bs, rs⟩ := o
  simp only at hwo ho ⊢
  obtain ⟨a, cp, rfl, hat⟩ := OldRow.cells cellsO_len hv.1
  obtain ⟨xa, xc, rfl⟩ := ho.len
  refine calls1 (args := [EV kind (.slice xa rs.length xc, ⟨k, s, n, over, c, tm, bs, rs⟩) ver (.slice a ps.length cp)]) Tryz.func42 rfl rfl rfl rfl ?_
  have h0 := fun w' (hb : Below w.heap.size w w') => Ojt.rright_ok ⟨k, s, n, over, c, tm, bs, rs⟩ _ hwo.wfO w' (ho.below hb)
  have h1 := fun w' => Lab.rkey_ok k s n (by have := hwo.1; simp only at this; omega) (by have := hwo.2.1; simp only at this; omega) (by have := hwo.2.2.1; simp only at this; omega) w'
  by_cases e0 : kind = 0
  · subst e0
    rw [show rightE 0 ⟨k, s, n, over, c, tm, bs, rs⟩ ver (obs ps) = rightO ⟨k, s, n, over, c, tm, bs, rs⟩ from rfl]
    repeat' (first | refine aw_seq ?_ | refine zz ?_ | refine zon fun _ => ?_ | refine zoa fun vr lr hr => ?_ | ((first | apply ao_call | apply aq_call); exact wants_a; (first | exact oc_func rfl | exact oc_clos rfl rfl); (exact rfl); (first | exact fun w hw => h0 w hw.below)) | refine zoS (fun _ => ?_) (fun _ => ?_) | refine zqS (fun _ => ?_) (fun _ => ?_) | refine zwS (fun _ => ?_) (fun _ => ?_))
    exact fun w' hw => ⟨rfl, hw.below⟩
  by_cases e1 : kind = 1
  · subst e1
    rw [show rightE 1 ⟨k, s, n, over, c, tm, bs, rs⟩ ver (obs ps) = (keyB k s n && decide (1 ≤ over)) from rfl]
    cases hk : keyB k s n
    · rw [hk] at h1
      repeat' (first | refine aw_seq ?_ | refine zz ?_ | refine zon fun _ => ?_ | refine zoa fun vr lr hr => ?_ | ((first | apply ao_call | apply aq_call); exact wants_a; (first | exact oc_func rfl | exact oc_clos rfl rfl); (exact rfl); (first | exact fun w hw => h1 w)) | refine zoS (fun _ => ?_) (fun _ => ?_) | refine zqS (fun _ => ?_) (fun _ => ?_) | refine zwS (fun _ => ?_) (fun _ => ?_))
      exact fun w' hw => ⟨rfl, hw.below⟩
    · rw [hk] at h1
      repeat' (first | refine aw_seq ?_ | refine zz ?_ | refine zon fun _ => ?_ | refine zoa fun vr lr hr => ?_ | ((first | apply ao_call | apply aq_call); exact wants_a; (first | exact oc_func rfl | exact oc_clos rfl rfl); (exact rfl); (first | exact fun w hw => h1 w)) | refine zoS (fun _ => ?_) (fun _ => ?_) | refine zqS (fun _ => ?_) (fun _ => ?_) | refine zwS (fun _ => ?_) (fun _ => ?_))
      exact fun w' hw => ⟨rfl, hw.below⟩
  by_cases e3 : kind = 3
  · subst e3
    rw [show rightE 3 ⟨k, s, n, over, c, tm, bs, rs⟩ ver (obs ps) = decide (0 ≤ ver) from rfl]
    repeat' (first | refine aw_seq ?_ | refine zz ?_ | refine zon fun _ => ?_ | refine zoa fun vr lr hr => ?_ | refine zoS (fun _ => ?_) (fun _ => ?_) | refine zqS (fun _ => ?_) (fun _ => ?_) | refine zwS (fun _ => ?_) (fun _ => ?_))
    exact fun w' hw => ⟨rfl, hw.below⟩
  by_cases e2 : kind = 2
  · subst e2
    rw [show rightE 2 ⟨k, s, n, over, c, tm, bs, rs⟩ ver (obs ps) = (relB (obs ps) ver && (decide (0 ≤ ver) && decide ((obs ps).length ≤ 1000))) from rfl]
    clear h0 h1
    repeat' (first | refine aw_seq ?_ | refine zz ?_ | refine zon fun _ => ?_ | refine zoa fun vr lr hr => ?_ | refine zoS (fun _ => ?_) (fun _ => ?_) | refine zqS (fun _ => ?_) (fun _ => ?_) | refine zwS (fun _ => ?_) (fun _ => ?_))
    refine aw_for (t0 := [(1, .pointer (some ⟨_, 0, none⟩)), (4, I (0 : Nat))]) (fun q t H => ∃ gb i : Nat, q = ps.length - i ∧ i ≤ ps.length ∧ (∀ j, j < i → relAt (obs ps) ver j = true) ∧ t = [(1, .pointer (some ⟨gb, 0, none⟩)), (4, I i)] ∧ H = [(gb, .cells #[I 2, S k, S s, S n, I over, S c, .bool tm, .bool bs, .slice xa rs.length xc, I ver, .slice a ps.length cp] 39)]) ⟨_, 0, rfl, by omega, fun j hj => by omega, rfl, rfl⟩ (by repeat (first | exact sub_nil | refine sub_cons rfl ?_)) ?_
    rintro q t H ⟨gb, i, rfl, hi, hall, rfl, rfl⟩
    by_cases hlt : i < ps.length
    · obtain ⟨⟨y, o⟩, he⟩ := getP hlt
      obtain ⟨g, o1, rfl, hg, hc⟩ := hat i _ (i : Int) he rfl
      have cA : ∀ (j : Nat) z, [S o.k, S o.s, S o.n, I o.ver, S o.c, .bool o.tm, .bool o.bs, y][j]? = some z → w.cell? ⟨g, o1 + (i : Int).toNat * 8 + j, none⟩ = some z := hc
      have cK : ∀ (j : Nat) z, [S o.k, S o.s, S o.n][j]? = some z → w.cell? ⟨g, o1 + (i : Int).toNat * 8 + 0 + j, none⟩ = some z := fun j z hj => hc j z (by
        rcases j with _ | _ | _ | j
        · exact hj
        · exact hj
        · exact hj
        · simp at hj)
      have c3 : w.cell? ⟨g, o1 + (i : Int).toNat * 8 + 3, none⟩ = some (I o.ver) := hc 3 _ rfl
      have m1 := List.mem_of_getElem? he
      have hws := hwf.2 _ m1
      have hr := fun w' (hb : Below w.heap.size w w') => Ojt.rright_ok o y hws.wfO w' ((hv.2 _ m1).below hb)
      cases hro : rightO o
      · rw [rel_f (by rw [obs_len]; exact hlt) (by unfold relAt; rw [ob_at he]; simp [hro]), Bool.false_and]
        rw [hro] at hr
        repeat' (first | refine aw_seq ?_ | ((first | apply ao_val | apply aq_val); exact wants_a; (first | exact ov_load_oa rfl hg cA rfl | exact ov_load_oa rfl hg cK rfl | exact ov_a); (exact rfl)) | refine zy ?_ | refine zon fun _ => ?_ | refine zoa fun vr lr hr => ?_ | ((first | apply ao_call | apply aq_call); exact wants_a; (first | exact oc_func rfl | exact oc_clos rfl rfl); (exact rfl); (first | exact fun w hw => hr w hw.below)) | refine zoS (fun _ => ?_) (fun _ => ?_) | refine zqS (fun _ => ?_) (fun _ => ?_) | refine zwS (fun _ => ?_) (fun _ => ?_))
        exact fun w' hw => ⟨rfl, hw.below⟩
      rw [hro] at hr
      by_cases hver : ver < o.ver
      · rw [rel_f (by rw [obs_len]; exact hlt) (by unfold relAt; rw [ob_at he]; simp [show ¬ (o.ver ≤ ver) by omega]), Bool.false_and]
        repeat' (first | refine aw_seq ?_ | ((first | apply ao_val | apply aq_val); exact wants_a; (first | exact ov_load_oa rfl hg cA rfl | exact ov_load_oa rfl hg cK rfl | exact ov_a); (exact rfl)) | refine zy ?_ | refine zon fun _ => ?_ | refine zoa fun vr lr hr => ?_ | ((first | apply ao_call | apply aq_call); exact wants_a; (first | exact oc_func rfl | exact oc_clos rfl rfl); (exact rfl); (first | exact fun w hw => hr w hw.below)) | refine zoS (fun _ => ?_) (fun _ => ?_) | refine zqS (fun _ => ?_) (fun _ => ?_) | refine zwS (fun _ => ?_) (fun _ => ?_))
        exact fun w' hw => ⟨rfl, hw.below⟩
      cases i with
      | zero =>
        have hok : relAt (obs ps) ver 0 = true := by unfold relAt; rw [ob_at he]; simp [hro, show o.ver ≤ ver by omega]
        repeat' (first | refine aw_seq ?_ | ((first | apply ao_val | apply aq_val); exact wants_a; (first | exact ov_load_oa rfl hg cA rfl | exact ov_load_oa rfl hg cK rfl | exact ov_a); (exact rfl)) | refine zy ?_ | refine zon fun _ => ?_ | refine zoa fun vr lr hr => ?_ | ((first | apply ao_call | apply aq_call); exact wants_a; (first | exact oc_func rfl | exact oc_clos rfl rfl); (exact rfl); (first | exact fun w hw => hr w hw.below)) | refine zoS (fun _ => ?_) (fun _ => ?_) | refine zqS (fun _ => ?_) (fun _ => ?_) | refine zwS (fun _ => ?_) (fun _ => ?_))
        exact lq_normal' ⟨gb, 1, rfl, by omega, fun j hj => (show 0 = j by omega) ▸ hok, rfl, rfl⟩ (by omega) (by repeat (first | exact sub_nil | refine sub_cons rfl ?_)) hsub_a
      | succ i =>
        obtain ⟨⟨z, r⟩, hp⟩ := getP (show i < ps.length by omega)
        obtain ⟨g', o', e1, -, hd⟩ := hat i _ (((i + 1 : Nat) : Int) - 1) hp (by omega)
        cases e1
        have dK : ∀ (j : Nat) z, [S r.k, S r.s, S r.n][j]? = some z → w.cell? ⟨g, o1 + (((i + 1 : Nat) : Int) - 1).toNat * 8 + 0 + j, none⟩ = some z := fun j z hj => hd j z (by
          rcases j with _ | _ | _ | j
          · exact hj
          · exact hj
          · exact hj
          · simp at hj)
        have hwr := hwf.2 _ (List.mem_of_getElem? hp)
        have hlc := fun w' => Lab.rless_ok r.k r.s r.n o.k o.s o.n hwr.1 hwr.2.1 hwr.2.2.1 hws.1 hws.2.1 hws.2.2.1 w'
        cases hl : lessO r o
        · rw [rel_f (by rw [obs_len]; exact hlt) (by unfold relAt; rw [ob_at he]; simp [ob_at hp, hl]), Bool.false_and]
          rw [show Op.bytesLess (joinB r.k r.s r.n) (joinB o.k o.s o.n) = _ from hl] at hlc
          repeat' (first | refine aw_seq ?_ | ((first | apply ao_val | apply aq_val); exact wants_a; (first | exact ov_load_oa rfl hg cA rfl | exact ov_load_oa rfl hg cK rfl | exact ov_load_oa rfl hg dK rfl | exact ov_a); (exact rfl)) | refine zy ?_ | refine zon fun _ => ?_ | refine zoa fun vr lr hr => ?_ | ((first | apply ao_call | apply aq_call); exact wants_a; (first | exact oc_func rfl | exact oc_clos rfl rfl); (exact rfl); (first | exact fun w hw => hr w hw.below | exact fun w hw => hlc w)) | refine zoS (fun _ => ?_) (fun _ => ?_) | refine zqS (fun _ => ?_) (fun _ => ?_) | refine zwS (fun _ => ?_) (fun _ => ?_))
          exact fun w' hw => ⟨rfl, hw.below⟩
        · have hok : relAt (obs ps) ver (i + 1) = true := by unfold relAt; rw [ob_at he]; simp [hro, ob_at hp, hl, show o.ver ≤ ver by omega]
          rw [show Op.bytesLess (joinB r.k r.s r.n) (joinB o.k o.s o.n) = _ from hl] at hlc
          repeat' (first | refine aw_seq ?_ | ((first | apply ao_val | apply aq_val); exact wants_a; (first | exact ov_load_oa rfl hg cA rfl | exact ov_load_oa rfl hg cK rfl | exact ov_load_oa rfl hg dK rfl | exact ov_a); (exact rfl)) | refine zy ?_ | refine zon fun _ => ?_ | refine zoa fun vr lr hr => ?_ | ((first | apply ao_call | apply aq_call); exact wants_a; (first | exact oc_func rfl | exact oc_clos rfl rfl); (exact rfl); (first | exact fun w hw => hr w hw.below | exact fun w hw => hlc w)) | refine zoS (fun _ => ?_) (fun _ => ?_) | refine zqS (fun _ => ?_) (fun _ => ?_) | refine zwS (fun _ => ?_) (fun _ => ?_))
          exact lq_normal' ⟨gb, i + 2, rfl, by omega, fun j hj => by
            by_cases e1 : j = i + 1
            · subst e1; exact hok
            · exact hall j (by omega), rfl, rfl⟩ (by omega) (by repeat (first | exact sub_nil | refine sub_cons rfl ?_)) hsub_a
    · obtain rfl : i = ps.length := by omega
      rw [rel_t (by rw [obs_len]; exact hall), Bool.true_and]
      by_cases hv0 : 0 ≤ ver
      · rw [decide_eq_true hv0, Bool.true_and, show decide ((obs ps).length ≤ 1000) = decide ((ps.length : Int) ≤ 1000) by rw [obs_len, Bool.eq_iff_iff, decide_eq_true_eq, decide_eq_true_eq]; omega]
        repeat' (first | refine aw_seq ?_ | refine zz ?_ | refine zon fun _ => ?_ | refine zoa fun vr lr hr => ?_ | refine zoS (fun _ => ?_) (fun _ => ?_) | refine zqS (fun _ => ?_) (fun _ => ?_) | refine zwS (fun _ => ?_) (fun _ => ?_))
        exact fun w' hw => ⟨rfl, hw.below⟩
      · rw [decide_eq_false hv0, Bool.false_and]
        repeat' (first | refine aw_seq ?_ | refine zz ?_ | refine zon fun _ => ?_ | refine zoa fun vr lr hr => ?_ | refine zoS (fun _ => ?_) (fun _ => ?_) | refine zqS (fun _ => ?_) (fun _ => ?_) | refine zwS (fun _ => ?_) (fun _ => ?_))
        exact fun w' hw => ⟨rfl, hw.below⟩
  · rw [show rightE kind ⟨k, s, n, over, c, tm, bs, rs⟩ ver (obs ps) = false by unfold rightE; rw [if_neg e0, if_neg e1, if_neg e3, if_neg e2]]
    repeat' (first | refine aw_seq ?_ | refine zz ?_ | refine zon fun _ => ?_ | refine zoa fun vr lr hr => ?_ | refine zoS (fun _ => ?_) (fun _ => ?_) | refine zqS (fun _ => ?_) (fun _ => ?_) | refine zwS (fun _ => ?_) (fun _ => ?_))
    exact fun w' hw => ⟨rfl, hw.below⟩
end Evt
end Go.Proofs.YtboimmfegeinaaaGreat
