/- What the document's answer for layer 8 does: a relist; conditions: names of at most 1,000 bytes, at most 19,999 objects. -/
import Derived.Test.YtboimmfegeinaaaGreatChw
import Derived.Test.YtboimmfegeinaaaGreatCsx
namespace Go.Proofs.YtboimmfegeinaaaGreat
namespace Chm
open Go Go.RowKit Sx Lab Vec Ojt Evt
attribute [local irreducible] Go.Calls

theorem getO_obs (ps : List PO) (k : Kt) : getO (obs ps) k = (findK ps k).map (·.2) := by
  unfold getO findK
  rw [List.find?_map]
  rfl
theorem hasO_obs (ps : List PO) (k : Kt) : hasO (obs ps) k = hasK ps k := by
  unfold hasO hasK
  rw [List.any_map]
  rfl
theorem woO_obs (ps : List PO) (k : Kt) : woO (obs ps) k = obs (withoutP ps k) := by
  unfold woO withoutP
  rw [List.filter_map]
  rfl
theorem wiO_obs (ps : List PO) (p : PO) : wiO (obs ps) p.2 = obs (withP ps p) := by
  unfold wiO withP
  rw [obs_sort, woO_obs]
  congr 1
  exact (List.map_append (f := fun p : PO => p.2) (l₁ := withoutP ps (keyO p.2)) (l₂ := [p])).symm
theorem knO_obs (ps : List PO) (gs : List Gr) (fl : Int) (k : Kt) : knO ⟨obs ps, gs, fl⟩ k = knownC ps gs fl k := by
  unfold knO knownC
  simp only [getO_obs]
  cases findK ps k <;> rfl
theorem withP_mem {ps : List PO} {p q : PO} (h : q ∈ withP ps p) : q ∈ ps ∨ q = p := by
  rcases List.mem_append.1 (sort_mem h) with h | h
  · exact .inl (List.mem_filter.1 h).1
  · exact .inr (List.mem_singleton.1 h)
theorem withP_len {ps : List PO} {p : PO} : (withP ps p).length ≤ ps.length + 1 := by
  unfold withP
  rw [sort_len, List.length_append, List.length_singleton]
  have : (withoutP ps (keyO p.2)).length ≤ ps.length := List.length_filter_le _ _
  omega
/-- Does a relist's object take its key's place? -/
def takesP (ps : List PO) (gs : List Gr) (fl : Int) (q : PO) : Bool := decide (knownC ps gs fl (keyO q.2) < q.2.ver) || (match findK ps (keyO q.2) with | some own => own.2.ver == q.2.ver | none => false)
theorem takes_obs (ps : List PO) (gs : List Gr) (fl : Int) (q : PO) : takesO ⟨obs ps, gs, fl⟩ q.2 = takesP ps gs fl q := by
  unfold takesO takesP
  rw [knO_obs]
  simp only [getO_obs]
  cases findK ps (keyO q.2) <;> rfl
def rlBase (ps qs : List PO) (ver : Int) : List PO := ps.filter fun p => hasK qs (keyO p.2) || decide (ver < p.2.ver)
def rlP (ps : List PO) (gs : List Gr) (fl : Int) (qs : List PO) (ver : Int) : List PO := qs.foldl (fun out q => if takesP ps gs fl q = true then withP out q else out) (rlBase ps qs ver)
theorem rlP_obs (ps : List PO) (gs : List Gr) (fl : Int) (qs : List PO) (ver : Int) : obs (rlP ps gs fl qs ver) = rlO ⟨obs ps, gs, fl⟩ (obs qs) ver := by
  have key : ∀ (l outs : List PO), obs (l.foldl (fun out q => if takesP ps gs fl q = true then withP out q else out) outs) = (obs l).foldl (rlStep ⟨obs ps, gs, fl⟩) (obs outs) := fun l => by
    induction l with
    | nil => intro outs; rfl
    | cons q l ih =>
      intro outs
      rw [List.foldl_cons, ih]
      show _ = (obs l).foldl _ (rlStep ⟨obs ps, gs, fl⟩ (obs outs) q.2)
      congr 1
      unfold rlStep
      rw [takes_obs, wiO_obs]
      split <;> rfl
  unfold rlP rlO
  rw [key]
  congr 1
  unfold rlBase
  simp only [hasO_obs]
  rw [List.filter_map]
  rfl
theorem rlP_mem {ps : List PO} {gs : List Gr} {fl : Int} {qs : List PO} {ver : Int} : (∀ p ∈ rlP ps gs fl qs ver, p ∈ ps ∨ p ∈ qs) ∧ (rlP ps gs fl qs ver).length ≤ ps.length + qs.length := by
  have key : ∀ (l outs : List PO), (∀ p ∈ l.foldl (fun out q => if takesP ps gs fl q = true then withP out q else out) outs, p ∈ outs ∨ p ∈ l) ∧ (l.foldl (fun out q => if takesP ps gs fl q = true then withP out q else out) outs).length ≤ outs.length + l.length := fun l => by
    induction l with
    | nil => intro outs; exact ⟨fun p h => .inl h, Nat.le_refl _⟩
    | cons q l ih =>
      intro outs
      rw [List.foldl_cons]
      by_cases ht : takesP ps gs fl q = true
      · rw [if_pos ht]
        obtain ⟨h1, h2⟩ := ih (withP outs q)
        have := withP_len (ps := outs) (p := q)
        refine ⟨fun p hp => ?_, by rw [List.length_cons]; omega⟩
        rcases h1 p hp with h | h
        · rcases withP_mem h with h | rfl
          · exact .inl h
          · exact .inr List.mem_cons_self
        · exact .inr (List.mem_cons_of_mem q h)
      · rw [if_neg ht]
        obtain ⟨h1, h2⟩ := ih outs
        refine ⟨fun p hp => ?_, by rw [List.length_cons]; omega⟩
        rcases h1 p hp with h | h
        · exact .inl h
        · exact .inr (List.mem_cons_of_mem q h)
  obtain ⟨h1, h2⟩ := key qs (rlBase ps qs ver)
  have hb : (rlBase ps qs ver).length ≤ ps.length := List.length_filter_le _ _
  refine ⟨fun p hp => ?_, by unfold rlP; omega⟩
  rcases h1 p hp with h | h
  · exact .inl (List.mem_filter.1 h).1
  · exact .inr h
theorem ChAt.below {w w' : World} {gc : Nat} {v u : Value} {ps : List PO} {gs : List Gr} {fl : Int} (h : ChAt w gc v ps u gs fl) (hb : Below w.heap.size w w') : ChAt w' gc v ps u gs fl := by
  obtain ⟨h1, h2, h3, h4, h5, h6⟩ := h
  exact ⟨Nat.lt_of_lt_of_le h1 hb.size, (hb.cell h1).trans h2, (hb.cell h1).trans h3, (hb.cell h1).trans h4, h5.below hb, OldRow.below h6 hb⟩

set_option maxHeartbeats 32000000 in
theorem rrelist_ok (gc : Nat) (v : Value) (ps : List PO) (u : Value) (gs : List Gr) (fl : Int) (kind : Int) (p : PO) (ver : Int) (v2 : Value) (qs : List PO) (hw1 : wfL ps) (hw2 : wfL qs) (hl : ps.length + qs.length ≤ 19999) (hl2 : gs.length ≤ 100000) (w : World) (hc0 : ChAt w gc v ps u gs fl)
    (ho : ResAt w p.1 p.2.rs) (hv2 : ObjsAt w v2 qs) :
    Calls Tryz.prog 47 #[.pointer (some ⟨gc, 0, none⟩), EV kind p ver v2] w fun e w' => ∃ r, e = .returned r ∧ NewRow 36 8 w w' r (rlP ps gs fl qs ver).length ((rlP ps gs fl qs ver).flatMap cellsO) := by
  have hget := fun w' (hb : Below w.heap.size w w') k => rget_ok gc v ps u gs fl k (by omega) w' (hc0.below hb)
  have hkn := fun w' (hb : Below w.heap.size w w') k => rknown_ok gc v ps u gs fl k (by omega) hl2 w' (hc0.below hb)
  have hhas := fun w' (hb : Below w.heap.size w w') k => rhas_ok v2 qs k (by omega) w' (hv2.below hb)
  obtain ⟨hgc, q0, -, -, hv, -⟩ := hc0
  obtain ⟨ea, ec, hx⟩ := ho.len
  obtain ⟨a2, c2, rfl, hat2⟩ := OldRow.cells cellsO_len hv2.1
  obtain ⟨a, c, rfl, hat⟩ := OldRow.cells cellsO_len hv.1
  obtain ⟨ex, ek, es, en, eov, ecl, etm, ebs, ers⟩ := p
  simp only at hx
  subst hx
  refine calls1 (args := [.pointer (some ⟨gc, 0, none⟩), EV kind (.slice ea ers.length ec, ⟨ek, es, en, eov, ecl, etm, ebs, ers⟩) ver (.slice a2 qs.length c2)]) Tryz.func47 rfl rfl rfl rfl ?_
  repeat' (first | refine aw_seq ?_ | ((first | apply ao_val | apply aq_val); exact wants_a; (first | exact ov_nilcheck rfl | exact ov_a); (exact rfl)) | refine zy ?_ | refine zon fun _ => ?_ | refine zoa fun vr lr hr => ?_ | refine zoS (fun _ => ?_) (fun _ => ?_) | refine zqS (fun _ => ?_) (fun _ => ?_) | refine zwS (fun _ => ?_) (fun _ => ?_))
  refine aw_for (t0 := [(0, .pointer (some ⟨gc, 0, none⟩)), (3, .pointer (some ⟨_, 0, none⟩)), (5, .slice none 0 0), (6, I (0 : Nat))]) (fun q t H => ∃ (gb i : Nat) (v5 : Value) (l5 : Hp) (outs : List PO), q = ps.length - i ∧ i ≤ ps.length ∧ outs = rlBase (ps.take i) qs ver ∧ RowB 36 8 v5 l5 outs.length (outs.flatMap cellsO) ∧
      t = [(0, .pointer (some ⟨gc, 0, none⟩)), (3, .pointer (some ⟨gb, 0, none⟩)), (5, v5), (6, I i)] ∧ H = l5 ++ [(gb, .cells #[I kind, S ek, S es, S en, I eov, S ecl, .bool etm, .bool ebs, .slice ea ers.length ec, I ver, .slice a2 qs.length c2] 39)])
    ⟨_, 0, _, [], [], rfl, by omega, rfl, RowB.nil, rfl, rfl⟩ (by repeat (first | exact sub_nil | refine sub_cons rfl ?_)) ?_
  rintro q t H ⟨gb, i, v5, l5, outs, rfl, hi, hout, r5, rfl, rfl⟩
  have hln : outs.length ≤ i := by rw [hout]; exact Nat.le_trans (List.length_filter_le _ _) (List.length_take_le _ _)
  by_cases hlt : i < ps.length
  · obtain ⟨⟨x, o⟩, he⟩ := getP hlt
    obtain ⟨xa, xc, hx⟩ := (hv.2 _ (List.mem_of_getElem? he)).len
    simp only at hx
    subst hx
    obtain ⟨g, o1, rfl, hg, hc⟩ := hat i _ (i : Int) he rfl
    have cA : ∀ (j : Nat) z, [S o.k, S o.s, S o.n, I o.ver, S o.c, .bool o.tm, .bool o.bs, .slice xa o.rs.length xc][j]? = some z → w.cell? ⟨g, o1 + (i : Int).toNat * 8 + j, none⟩ = some z := hc
    have cK := key_load hc
    have c3 : w.cell? ⟨g, o1 + (i : Int).toNat * 8 + 3, none⟩ = some (I o.ver) := hc 3 _ rfl
    have hh := fun w' hb => hhas w' hb (keyO o)
    have hnx : rlBase (ps.take (i + 1)) qs ver = outs ++ (if (hasK qs (keyO o) || decide (ver < o.ver)) = true then [((.slice xa o.rs.length xc : Value), o)] else []) := by
      unfold rlBase at *
      rw [List.take_add_one, he, List.filter_append, ← hout]
      cases hq : (hasK qs (keyO o) || decide (ver < o.ver)) <;> simp [hq]
    cases hb : hasK qs (keyO o)
    · rw [hb] at hh
      by_cases hver : ver < o.ver
      · rw [hb, Bool.false_or, decide_eq_true hver, if_pos rfl] at hnx
        repeat' (first | refine aw_seq ?_ | ((first | apply ao_val | apply aq_val); exact wants_a; (first | exact ov_nilcheck rfl | exact ov_load_oa rfl hg cA rfl | exact ov_load_oa rfl hg cK rfl | exact ov_a); (exact rfl)) | refine zy ?_ | refine zon fun _ => ?_ | refine zoa fun vr lr hr => ?_ | ((first | apply ao_call | apply aq_call); exact wants_a; (first | exact oc_func rfl | exact oc_clos rfl rfl); (exact rfl); (first | exact fun w hw => hh w hw.below)) | refine zoS (fun _ => ?_) (fun _ => ?_) | refine zqS (fun _ => ?_) (fun _ => ?_) | refine zwS (fun _ => ?_) (fun _ => ?_))
        exact lq_normal' ⟨gb, i + 1, _, _, outs ++ [(_, o)], rfl, by omega, hnx.symm, row_o hr, rfl, rfl⟩ (by omega) (by repeat (first | exact sub_nil | refine sub_cons rfl ?_)) hsub_a
      · rw [hb, Bool.false_or, decide_eq_false hver, if_neg (by decide), List.append_nil] at hnx
        repeat' (first | refine aw_seq ?_ | ((first | apply ao_val | apply aq_val); exact wants_a; (first | exact ov_nilcheck rfl | exact ov_load_oa rfl hg cA rfl | exact ov_load_oa rfl hg cK rfl | exact ov_a); (exact rfl)) | refine zy ?_ | refine zon fun _ => ?_ | refine zoa fun vr lr hr => ?_ | ((first | apply ao_call | apply aq_call); exact wants_a; (first | exact oc_func rfl | exact oc_clos rfl rfl); (exact rfl); (first | exact fun w hw => hh w hw.below)) | refine zoS (fun _ => ?_) (fun _ => ?_) | refine zqS (fun _ => ?_) (fun _ => ?_) | refine zwS (fun _ => ?_) (fun _ => ?_))
        exact lq_normal' ⟨gb, i + 1, v5, _, outs, rfl, by omega, hnx.symm, r5, rfl, rfl⟩ (by omega) (by repeat (first | exact sub_nil | refine sub_cons rfl ?_)) hsub_a
    · rw [hb] at hh
      rw [hb, Bool.true_or, if_pos rfl] at hnx
      repeat' (first | refine aw_seq ?_ | ((first | apply ao_val | apply aq_val); exact wants_a; (first | exact ov_nilcheck rfl | exact ov_load_oa rfl hg cA rfl | exact ov_load_oa rfl hg cK rfl | exact ov_a); (exact rfl)) | refine zy ?_ | refine zon fun _ => ?_ | refine zoa fun vr lr hr => ?_ | ((first | apply ao_call | apply aq_call); exact wants_a; (first | exact oc_func rfl | exact oc_clos rfl rfl); (exact rfl); (first | exact fun w hw => hh w hw.below)) | refine zoS (fun _ => ?_) (fun _ => ?_) | refine zqS (fun _ => ?_) (fun _ => ?_) | refine zwS (fun _ => ?_) (fun _ => ?_))
      exact lq_normal' ⟨gb, i + 1, _, _, outs ++ [(_, o)], rfl, by omega, hnx.symm, row_o hr, rfl, rfl⟩ (by omega) (by repeat (first | exact sub_nil | refine sub_cons rfl ?_)) hsub_a
  · obtain rfl : i = ps.length := by omega
    rw [List.take_length] at hout
    have hmem : ∀ p ∈ outs, p ∈ ps ∨ p ∈ qs := fun p hp => by rw [hout] at hp; exact .inl (List.mem_filter.1 hp).1
    have hT : rlP ps gs fl qs ver = qs.foldl (fun out q => if takesP ps gs fl q = true then withP out q else out) outs := by rw [hout]; rfl
    rw [hT]
    clear hout hT hhas
    repeat' (first | refine aw_seq ?_ | ((first | apply ao_val | apply aq_val); exact wants_a; (first | exact ov_nilcheck rfl | exact ov_a); (exact rfl)) | refine zy ?_ | refine zon fun _ => ?_ | refine zoa fun vr lr hr => ?_ | refine zoS (fun _ => ?_) (fun _ => ?_) | refine zqS (fun _ => ?_) (fun _ => ?_) | refine zwS (fun _ => ?_) (fun _ => ?_))
    refine aw_for (t0 := [(0, .pointer (some ⟨gc, 0, none⟩)), (3, .pointer (some ⟨gb, 0, none⟩)), (5, v5), (8, I (0 : Nat))]) (fun q t H => ∃ (k : Nat) (v5 : Value) (l5 : Hp) (nx : List PO), q = qs.length - k ∧ k ≤ qs.length ∧ nx = (qs.take k).foldl (fun out q => if takesP ps gs fl q = true then withP out q else out) outs ∧ nx.length ≤ ps.length + k ∧ (∀ p ∈ nx, p ∈ ps ∨ p ∈ qs) ∧
        RowB 36 8 v5 l5 nx.length (nx.flatMap cellsO) ∧ t = [(0, .pointer (some ⟨gc, 0, none⟩)), (3, .pointer (some ⟨gb, 0, none⟩)), (5, v5), (8, I k)] ∧ H = l5 ++ [(gb, .cells #[I kind, S ek, S es, S en, I eov, S ecl, .bool etm, .bool ebs, .slice ea ers.length ec, I ver, .slice a2 qs.length c2] 39)])
      ⟨0, _, _, outs, rfl, by omega, rfl, hln, hmem, r5, rfl, rfl⟩ (by repeat (first | exact sub_nil | refine sub_cons rfl ?_)) ?_
    clear hln hmem r5
    rintro q t H ⟨k, v5, l5, nx, rfl, hk, hnx, hln, hmem, r5, rfl, rfl⟩
    by_cases hkl : k < qs.length
    · obtain ⟨⟨y, o⟩, hf⟩ := getP hkl
      have m2 := List.mem_of_getElem? hf
      obtain ⟨ya, yc, hy⟩ := (hv2.2 _ m2).len
      simp only at hy
      subst hy
      obtain ⟨g2, o2, rfl, hg2, hc2⟩ := hat2 k _ (k : Int) hf rfl
      have cB : ∀ (j : Nat) z, [S o.k, S o.s, S o.n, I o.ver, S o.c, .bool o.tm, .bool o.bs, .slice ya o.rs.length yc][j]? = some z → w.cell? ⟨g2, o2 + (k : Int).toNat * 8 + j, none⟩ = some z := hc2
      have hnext : (qs.take (k + 1)).foldl (fun out q => if takesP ps gs fl q = true then withP out q else out) outs = if takesP ps gs fl (.slice ya o.rs.length yc, o) = true then withP nx (.slice ya o.rs.length yc, o) else nx := by
        rw [List.take_add_one, hf, List.foldl_append, ← hnx]; rfl
      have hwo := hw2.2 _ m2
      have hwn : wfL nx := ⟨by omega, fun p hp => by
        rcases hmem p hp with h | h
        · exact hw1.2 p h
        · exact hw2.2 p h⟩
      have hwith := fun w' (hb : Below w.heap.size w w') (h : OldRow w' 8 v5 nx.length (nx.flatMap cellsO)) => rwith_ok v5 nx (.slice ya o.rs.length yc) o hwn hwo (by omega) w' ⟨h, fun p hp => by
        rcases hmem p hp with h | h
        · exact (hv.2 p h).below hb
        · exact (hv2.2 p h).below hb⟩ ((hv2.2 _ m2).below hb)
      have hgt := fun w' hb => hget w' hb (keyO o)
      have hkk := fun w' hb => hkn w' hb (keyO o)
      have hmem2 : ∀ p ∈ withP nx (.slice ya o.rs.length yc, o), p ∈ ps ∨ p ∈ qs := fun p hp => by
        rcases withP_mem hp with h | h
        · exact hmem p h
        · rw [h]; exact .inr m2
      have hln2 := withP_len (ps := nx) (p := (.slice ya o.rs.length yc, o))
      have htk : takesP ps gs fl ((.slice ya o.rs.length yc : Value), o) = (decide (knownC ps gs fl (keyO o) < o.ver) || (match findK ps (keyO o) with | some own => own.2.ver == o.ver | none => false)) := rfl
      obtain ⟨a5, cc5, rfl⟩ := r5.len
      generalize hK : knownC ps gs fl (keyO o) = K at hkk htk
      cases hfk : findK ps (keyO o) with
      | none =>
        rw [hfk] at hgt htk
        simp only [getV] at hgt
        simp only [Bool.or_false] at htk
        by_cases hkv : K < o.ver
        · rw [decide_eq_true hkv] at htk; rw [htk, if_pos rfl] at hnext
          repeat' (first | refine aw_seq ?_ | ((first | apply ao_val | apply aq_val); exact wants_a; (first | exact ov_nilcheck rfl | exact ov_load_oa rfl hg2 cB rfl | exact ov_a); (exact rfl)) | refine zy ?_ | refine zon fun _ => ?_ | refine zoa fun vr lr hr => ?_ | ((first | apply ao_call | apply aq_call); exact wants_a; (first | exact oc_func rfl | exact oc_clos rfl rfl); (exact rfl); (first | exact fun w hw => hgt w hw.below | exact fun w hw => hkk w hw.below)) | (apply ao_callr; exact wants_a; (exact oc_func rfl); (exact rfl); (first | (intro w hw; refine hwith w hw.below ?_; exact hw.oldr (by assumption) cut_a)); intro vr lr hr) | refine zoS (fun _ => ?_) (fun _ => ?_) | refine zqS (fun _ => ?_) (fun _ => ?_) | refine zwS (fun _ => ?_) (fun _ => ?_))
          exact lq_normal' ⟨k + 1, _, _, _, rfl, by omega, hnext.symm, by omega, hmem2, hr, rfl, rfl⟩ (by omega) (by repeat (first | exact sub_nil | refine sub_cons rfl ?_)) hsub_a
        · rw [decide_eq_false hkv] at htk; rw [htk, if_neg (by decide)] at hnext
          repeat' (first | refine aw_seq ?_ | ((first | apply ao_val | apply aq_val); exact wants_a; (first | exact ov_nilcheck rfl | exact ov_load_oa rfl hg2 cB rfl | exact ov_a); (exact rfl)) | refine zy ?_ | refine zon fun _ => ?_ | refine zoa fun vr lr hr => ?_ | ((first | apply ao_call | apply aq_call); exact wants_a; (first | exact oc_func rfl | exact oc_clos rfl rfl); (exact rfl); (first | exact fun w hw => hgt w hw.below | exact fun w hw => hkk w hw.below)) | refine zoS (fun _ => ?_) (fun _ => ?_) | refine zqS (fun _ => ?_) (fun _ => ?_) | refine zwS (fun _ => ?_) (fun _ => ?_))
          exact lq_normal' ⟨k + 1, _, _, _, rfl, by omega, hnext.symm, by omega, hmem, r5, rfl, rfl⟩ (by omega) (by repeat (first | exact sub_nil | refine sub_cons rfl ?_)) hsub_a
      | some own =>
        obtain ⟨z, r⟩ := own
        obtain ⟨za, zc, hz⟩ := (hv.2 _ (List.mem_of_find?_eq_some hfk)).len
        simp only at hz
        subst hz
        rw [hfk] at hgt htk
        simp only [getV] at hgt
        replace htk : takesP ps gs fl ((.slice ya o.rs.length yc : Value), o) = (decide (K < o.ver) || (r.ver == o.ver)) := htk
        by_cases hkv : K < o.ver
        · rw [decide_eq_true hkv, Bool.true_or] at htk; rw [htk, if_pos rfl] at hnext
          repeat' (first | refine aw_seq ?_ | ((first | apply ao_val | apply aq_val); exact wants_a; (first | exact ov_nilcheck rfl | exact ov_load_oa rfl hg2 cB rfl | exact ov_a); (exact rfl)) | refine zy ?_ | refine zon fun _ => ?_ | refine zoa fun vr lr hr => ?_ | ((first | apply ao_call | apply aq_call); exact wants_a; (first | exact oc_func rfl | exact oc_clos rfl rfl); (exact rfl); (first | exact fun w hw => hgt w hw.below | exact fun w hw => hkk w hw.below)) | (apply ao_callr; exact wants_a; (exact oc_func rfl); (exact rfl); (first | (intro w hw; refine hwith w hw.below ?_; exact hw.oldr (by assumption) cut_a)); intro vr lr hr) | refine zoS (fun _ => ?_) (fun _ => ?_) | refine zqS (fun _ => ?_) (fun _ => ?_) | refine zwS (fun _ => ?_) (fun _ => ?_))
          exact lq_normal' ⟨k + 1, _, _, _, rfl, by omega, hnext.symm, by omega, hmem2, hr, rfl, rfl⟩ (by omega) (by repeat (first | exact sub_nil | refine sub_cons rfl ?_)) hsub_a
        · by_cases hev : r.ver = o.ver
          · rw [decide_eq_false hkv, Bool.false_or, beq_iff_eq.2 hev] at htk; rw [htk, if_pos rfl] at hnext
            repeat' (first | refine aw_seq ?_ | ((first | apply ao_val | apply aq_val); exact wants_a; (first | exact ov_nilcheck rfl | exact ov_load_oa rfl hg2 cB rfl | exact ov_a); (exact rfl)) | refine zy ?_ | refine zon fun _ => ?_ | refine zoa fun vr lr hr => ?_ | ((first | apply ao_call | apply aq_call); exact wants_a; (first | exact oc_func rfl | exact oc_clos rfl rfl); (exact rfl); (first | exact fun w hw => hgt w hw.below | exact fun w hw => hkk w hw.below)) | (apply ao_callr; exact wants_a; (exact oc_func rfl); (exact rfl); (first | (intro w hw; refine hwith w hw.below ?_; exact hw.oldr (by assumption) cut_a)); intro vr lr hr) | refine zoS (fun _ => ?_) (fun _ => ?_) | refine zqS (fun _ => ?_) (fun _ => ?_) | refine zwS (fun _ => ?_) (fun _ => ?_))
            exact lq_normal' ⟨k + 1, _, _, _, rfl, by omega, hnext.symm, by omega, hmem2, hr, rfl, rfl⟩ (by omega) (by repeat (first | exact sub_nil | refine sub_cons rfl ?_)) hsub_a
          · rw [decide_eq_false hkv, Bool.false_or, beq_eq_false_iff_ne.2 hev] at htk; rw [htk, if_neg (by decide)] at hnext
            repeat' (first | refine aw_seq ?_ | ((first | apply ao_val | apply aq_val); exact wants_a; (first | exact ov_nilcheck rfl | exact ov_load_oa rfl hg2 cB rfl | exact ov_a); (exact rfl)) | refine zy ?_ | refine zon fun _ => ?_ | refine zoa fun vr lr hr => ?_ | ((first | apply ao_call | apply aq_call); exact wants_a; (first | exact oc_func rfl | exact oc_clos rfl rfl); (exact rfl); (first | exact fun w hw => hgt w hw.below | exact fun w hw => hkk w hw.below)) | refine zoS (fun _ => ?_) (fun _ => ?_) | refine zqS (fun _ => ?_) (fun _ => ?_) | refine zwS (fun _ => ?_) (fun _ => ?_))
            exact lq_normal' ⟨k + 1, _, _, _, rfl, by omega, hnext.symm, by omega, hmem, r5, rfl, rfl⟩ (by omega) (by repeat (first | exact sub_nil | refine sub_cons rfl ?_)) hsub_a
    · obtain rfl : k = qs.length := by omega
      rw [List.take_length] at hnx
      rw [← hnx]
      repeat' (first | refine aw_seq ?_ | ((first | apply ao_val | apply aq_val); exact wants_a; (first | exact ov_nilcheck rfl | exact ov_a); (exact rfl)) | refine zy ?_ | refine zon fun _ => ?_ | refine zoa fun vr lr hr => ?_ | refine zoS (fun _ => ?_) (fun _ => ?_) | refine zqS (fun _ => ?_) (fun _ => ?_) | refine zwS (fun _ => ?_) (fun _ => ?_))
      exact fun w' hw => ⟨_, rfl, hw.below, _, r5, fun b o hm => hw.at_ b o (List.mem_append_left _ hm)⟩
end Chm
end Go.Proofs.YtboimmfegeinaaaGreat
