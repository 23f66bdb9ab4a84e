/- Contracts of the document's answer for layer 7: Version, Same, Sorted; conditions: names of at most 1,000 bytes, at most 100,000 objects and resources. -/
import Derived.Test.YtbllkmhkpapgeaaEvr
import Derived.Test.YtbllkmhkpapgeaaEvn
namespace Go.Proofs.Ytbllkmhkpapgeaa
namespace Evt
open Go Go.RowKit Sx Lab Vec Ojt
attribute [local irreducible] Go.Calls

def sameE (k1 : Int) (o1 : Ob) (v1 : Int) (ps : List PO) (k2 : Int) (o2 : Ob) (v2 : Int) (qs : List PO) : Bool := decide (o1 = o2) && (decide (obs ps = obs qs) && ((k1 == k2) && (v1 == v2)))
set_option maxHeartbeats 8000000 in
theorem rsame_ok (k1 : Int) (p1 : PO) (v1 : Int) (v : Value) (ps : List PO) (k2 : Int) (p2 : PO) (v2 : Int) (u : Value) (qs : List PO) (hwo1 : wfS p1.2) (hwf1 : wfL ps) (hwo2 : wfS p2.2) (hwf2 : wfL qs) (w : World)
    (ho1 : ResAt w p1.1 p1.2.rs) (hv1 : ObjsAt w v ps) (ho2 : ResAt w p2.1 p2.2.rs) (hv2 : ObjsAt w u qs) :
    Calls Try.prog 15 #[EV k1 p1 v1 v, EV k2 p2 v2 u] w fun e w' => e = .returned (.bool (sameE k1 p1.2 v1 ps k2 p2.2 v2 qs)) ∧ Below w.heap.size w w' := by
  have h1 := fun w' (hb : Below w.heap.size w w') => Ojt.rsame_ok p1.2 p2.2 p1.1 p2.1 hwo1.wfO hwo2.wfO w' (ho1.below hb) (ho2.below hb)
  have h2 := fun w' (hb : Below w.heap.size w w') => robjs_ok v u ps qs hwf1 hwf2 w' (hv1.below hb) (hv2.below hb)
  rw [same_eq] at h1
  obtain ⟨x, k, s, n, over, c, tm, bs, rs⟩ := p1
  obtain ⟨y, k', s', n', over', c', tm', bs', rs'⟩ := p2
  simp only at ho1 ho2 h1 ⊢
  obtain ⟨xa, xc, rfl⟩ := ho1.len
  obtain ⟨ya, yc, rfl⟩ := ho2.len
  obtain ⟨a, cp, rfl⟩ := hv1.1.len
  obtain ⟨b, cb, rfl⟩ := hv2.1.len
  refine calls1 (args := [EV k1 (.slice xa rs.length xc, ⟨k, s, n, over, c, tm, bs, rs⟩) v1 (.slice a ps.length cp), EV k2 (.slice ya rs'.length yc, ⟨k', s', n', over', c', tm', bs', rs'⟩) v2 (.slice b qs.length cb)]) Try.func15 rfl rfl rfl rfl ?_
  unfold sameE
  generalize decide ((⟨k, s, n, over, c, tm, bs, rs⟩ : Ob) = ⟨k', s', n', over', c', tm', bs', rs'⟩) = b1 at h1 ⊢
  generalize decide (obs ps = obs qs) = b2 at h2 ⊢
  repeat' (first | refine aw_seq ?_ | refine zz ?_ | refine zon fun _ => ?_ | refine zoa fun vr lr hr => ?_ | ((first | apply ao_call | apply aq_call); exact wants_a; (first | exact oc_func rfl | exact oc_clos rfl rfl); (exact rfl); (first | exact fun w hw => h1 w hw.below | exact fun w hw => h2 w hw.below)) | refine zoS (fun _ => ?_) (fun _ => ?_) | refine zqS (fun _ => ?_) (fun _ => ?_) | refine zwS (fun _ => ?_) (fun _ => ?_))
  all_goals exact ret_bool (by simp only [*, Bool.true_and, Bool.false_and])

theorem row_o {v : Value} {k : Hp} {os : List PO} {u : Value} {o : Ob} {e : TypeId} (h : RowB e 8 v k (os.length + 1) (os.flatMap cellsO ++ [S o.k, S o.s, S o.n, I o.ver, S o.c, .bool o.tm, .bool o.bs, u])) : RowB e 8 v k (os ++ [(u, o)]).length ((os ++ [(u, o)]).flatMap cellsO) := by
  rw [List.length_append, List.flatMap_append]
  exact h

theorem row_o2 {v : Value} {k : Hp} {os : List PO} {u u2 : Value} {o o2 : Ob} {e : TypeId} (h : RowB e 8 v k (os.length + 1 + 1) (os.flatMap cellsO ++ [S o.k, S o.s, S o.n, I o.ver, S o.c, .bool o.tm, .bool o.bs, u] ++ [S o2.k, S o2.s, S o2.n, I o2.ver, S o2.c, .bool o2.tm, .bool o2.bs, u2])) :
    RowB e 8 v k (os ++ [(u, o)] ++ [(u2, o2)]).length ((os ++ [(u, o)] ++ [(u2, o2)]).flatMap cellsO) := by
  rw [List.length_append, List.length_append, List.flatMap_append, List.flatMap_append]
  exact h

set_option maxHeartbeats 64000000 in
theorem rsorted_ok (v : Value) (ps : List PO) (hwf : wfL ps) (h1000 : ps.length ≤ 20000) (w : World) (hv : ObjsAt w v ps) :
    Calls Try.prog 48 #[v] w fun e w' => ∃ r, e = .returned r ∧ NewRow 38 8 w w' r (sortP ps).length ((sortP ps).flatMap cellsO) := by
  obtain ⟨a, cp, rfl, hat⟩ := OldRow.cells cellsO_len hv.1
  refine calls1 (args := [.slice a ps.length cp]) Try.func48 rfl rfl rfl rfl ?_
  repeat' (first | refine aw_seq ?_ | refine zz ?_ | refine zon fun _ => ?_ | refine zoa fun vr lr hr => ?_ | refine zoS (fun _ => ?_) (fun _ => ?_) | refine zqS (fun _ => ?_) (fun _ => ?_) | refine zwS (fun _ => ?_) (fun _ => ?_))
  refine aw_for (t0 := [(0, .slice a ps.length cp), (3, .slice none 0 0), (4, I (0 : Nat))]) (fun q t H => ∃ (i : Nat) (v3 : Value) (l3 : Hp) (outs : List PO), q = ps.length - i ∧ i ≤ ps.length ∧ outs = sortP (ps.take i) ∧ outs.length = i ∧ (∀ p ∈ outs, p ∈ ps) ∧ RowB 38 8 v3 l3 outs.length (outs.flatMap cellsO) ∧ t = [(0, .slice a ps.length cp), (3, v3), (4, I i)] ∧ H = l3 ++ [])
    ⟨0, _, [], [], rfl, by omega, rfl, rfl, fun p hp => (by cases hp), RowB.nil, rfl, rfl⟩ (by repeat (first | exact sub_nil | refine sub_cons rfl ?_)) ?_
  rintro q t H ⟨i, v3, l3, outs, rfl, hi, hout, hol, hmem, r3, rfl, rfl⟩
  by_cases hlt : i < ps.length
  · obtain ⟨⟨u, o⟩, he⟩ := getP hlt
    have m1 := List.mem_of_getElem? he
    have hws := hwf.2 _ m1
    have hra := hv.2 _ m1
    obtain ⟨ua, uc, hu⟩ := hra.len
    simp only at hu
    subst hu
    obtain ⟨g, o1, rfl, hg, hc⟩ := hat i _ (i : Int) he rfl
    have cA : ∀ (j : Nat) z, [S o.k, S o.s, S o.n, I o.ver, S o.c, .bool o.tm, .bool o.bs, .slice ua o.rs.length uc][j]? = some z → w.cell? ⟨g, o1 + (i : Int).toNat * 8 + j, none⟩ = some z := hc
    have cK : ∀ (j : Nat) z, [S o.k, S o.s, S o.n][j]? = some z → w.cell? ⟨g, o1 + (i : Int).toNat * 8 + 0 + j, none⟩ = some z := fun j z hj => hc j z (by
      rcases j with _ | _ | _ | j
      · exact hj
      · exact hj
      · exact hj
      · simp at hj)
    have hnext : sortP (ps.take (i + 1)) = insP (.slice ua o.rs.length uc, o) outs := by
      rw [List.take_add_one, he, hout]
      exact sort_snoc _ _
    obtain ⟨a3, c3, rfl⟩ := r3.len
    repeat' (first | refine aw_seq ?_ | refine zz ?_ | refine zon fun _ => ?_ | refine zoa fun vr lr hr => ?_ | refine zoS (fun _ => ?_) (fun _ => ?_) | refine zqS (fun _ => ?_) (fun _ => ?_) | refine zwS (fun _ => ?_) (fun _ => ?_))
    refine aw_for (t0 := [(0, .slice (some ⟨g, o1, none⟩) ps.length cp), (3, .slice a3 outs.length c3), (4, I i), (5, .slice none 0 0), (6, .bool false), (7, I (0 : Nat))])
      (fun q t H => ∃ (k : Nat) (v5 : Value) (l5 : Hp) (nx : List PO) (d : Bool), q = outs.length - k ∧ k ≤ outs.length ∧ nx.length ≤ 2 * k ∧ (if d = true then nx ++ outs.drop k = insP (.slice ua o.rs.length uc, o) outs else nx ++ insP (.slice ua o.rs.length uc, o) (outs.drop k) = insP (.slice ua o.rs.length uc, o) outs) ∧
        RowB 38 8 v5 l5 nx.length (nx.flatMap cellsO) ∧ t = [(0, .slice (some ⟨g, o1, none⟩) ps.length cp), (3, .slice a3 outs.length c3), (4, I i), (5, v5), (6, .bool d), (7, I k)] ∧ H = l5 ++ (l3 ++ []))
      ⟨0, _, [], [], false, rfl, by omega, by simp, by simp, RowB.nil, rfl, rfl⟩ (by repeat (first | exact sub_nil | refine sub_cons rfl ?_)) ?_
    rintro q t H ⟨k, v5, l5, nx, d, rfl, hk, hnl, hinv, r5, rfl, rfl⟩
    by_cases hkl : k < outs.length
    · obtain ⟨⟨z, r⟩, hf⟩ := getP hkl
      have mf := hmem _ (List.mem_of_getElem? hf)
      have hwr := hwf.2 _ mf
      obtain ⟨za, zc, hz⟩ := (hv.2 _ mf).len
      simp only at hz
      subst hz
      obtain ⟨g3, cap3, cs3, h3, rfl, hc3⟩ := r3.cells_all cellsO_len (by omega)
      cases h3
      have slO : sl (0 + (k : Int).toNat * 8) 8 cs3 = some [S r.k, S r.s, S r.n, I r.ver, S r.c, .bool r.tm, .bool r.bs, .slice za r.rs.length zc] := sl_of (vs := cellsO (.slice za r.rs.length zc, r)) (.inl (by rw [cellsO_len]; omega)) fun j y hj => hc3 k _ (k : Int) j y hf rfl hj
      have slK : sl (0 + (k : Int).toNat * 8 + 0) 3 cs3 = some [S r.k, S r.s, S r.n] := sl_of (vs := [S r.k, S r.s, S r.n]) (.inl (Nat.zero_lt_succ _)) fun j y hj => hc3 k _ (k : Int) j y hf rfl (by
        rcases j with _ | _ | _ | j
        · exact hj
        · exact hj
        · exact hj
        · simp at hj)
      have hlc := fun w' => Lab.rless_ok o.k o.s o.n r.k r.s r.n hws.1 hws.2.1 hws.2.2.1 hwr.1 hwr.2.1 hwr.2.2.1 w'
      have hdr : outs.drop k = (.slice za r.rs.length zc, r) :: outs.drop (k + 1) := by
        rw [List.drop_eq_getElem_cons hkl, (List.getElem?_eq_some_iff.1 hf).2]
      rw [hdr] at hinv
      cases d
      · rw [if_neg (by decide)] at hinv
        cases hl : lessO o r
        · rw [show Op.bytesLess (joinB o.k o.s o.n) (joinB r.k r.s r.n) = _ from hl] at hlc
          rw [insP, if_neg (by simp only; rw [hl]; decide)] at hinv
          repeat' (first | refine aw_seq ?_ | ((first | apply ao_val | apply aq_val); exact wants_a; (first | exact ov_load_oa rfl hg cA rfl | exact ov_load_oa rfl hg cK rfl | exact ov_a); (exact rfl)) | refine zy ?_ | refine zon fun _ => ?_ | refine zoa fun vr lr hr => ?_ | ((first | apply ao_call | apply aq_call); exact wants_a; (first | exact oc_func rfl | exact oc_clos rfl rfl); (exact rfl); (first | exact fun w hw => hlc w)) | refine zoS (fun _ => ?_) (fun _ => ?_) | refine zqS (fun _ => ?_) (fun _ => ?_) | refine zwS (fun _ => ?_) (fun _ => ?_))
          exact lq_normal' ⟨k + 1, _, _, _, false, rfl, by omega, by rw [List.length_append, List.length_singleton]; omega, by rw [if_neg (by decide), ← hinv, List.append_assoc]; rfl, row_o hr, rfl, rfl⟩ (by omega) (by repeat (first | exact sub_nil | refine sub_cons rfl ?_)) hsub_a
        · rw [show Op.bytesLess (joinB o.k o.s o.n) (joinB r.k r.s r.n) = _ from hl] at hlc
          rw [insP, if_pos hl] at hinv
          repeat' (first | refine aw_seq ?_ | ((first | apply ao_val | apply aq_val); exact wants_a; (first | exact ov_load_oa rfl hg cA rfl | exact ov_load_oa rfl hg cK rfl | exact ov_a); (exact rfl)) | refine zy ?_ | refine zon fun _ => ?_ | refine zoa fun vr lr hr => ?_ | ((first | apply ao_call | apply aq_call); exact wants_a; (first | exact oc_func rfl | exact oc_clos rfl rfl); (exact rfl); (first | exact fun w hw => hlc w)) | refine zoS (fun _ => ?_) (fun _ => ?_) | refine zqS (fun _ => ?_) (fun _ => ?_) | refine zwS (fun _ => ?_) (fun _ => ?_))
          exact lq_normal' ⟨k + 1, _, _, _, true, rfl, by omega, by rw [List.length_append, List.length_append, List.length_singleton, List.length_singleton]; omega, by rw [if_pos rfl, ← hinv, List.append_assoc, List.append_assoc]; rfl, row_o2 hr, rfl, rfl⟩ (by omega) (by repeat (first | exact sub_nil | refine sub_cons rfl ?_)) hsub_a
      · rw [if_pos rfl] at hinv
        cases hl : lessO o r
        all_goals
          rw [show Op.bytesLess (joinB o.k o.s o.n) (joinB r.k r.s r.n) = _ from hl] at hlc
          repeat' (first | refine aw_seq ?_ | ((first | apply ao_val | apply aq_val); exact wants_a; (first | exact ov_load_oa rfl hg cA rfl | exact ov_load_oa rfl hg cK rfl | exact ov_a); (exact rfl)) | refine zy ?_ | refine zon fun _ => ?_ | refine zoa fun vr lr hr => ?_ | ((first | apply ao_call | apply aq_call); exact wants_a; (first | exact oc_func rfl | exact oc_clos rfl rfl); (exact rfl); (first | exact fun w hw => hlc w)) | refine zoS (fun _ => ?_) (fun _ => ?_) | refine zqS (fun _ => ?_) (fun _ => ?_) | refine zwS (fun _ => ?_) (fun _ => ?_))
          exact lq_normal' ⟨k + 1, _, _, _, true, rfl, by omega, by rw [List.length_append, List.length_singleton]; omega, by rw [if_pos rfl, ← hinv, List.append_assoc]; rfl, row_o hr, rfl, rfl⟩ (by omega) (by repeat (first | exact sub_nil | refine sub_cons rfl ?_)) hsub_a
    · obtain rfl : k = outs.length := by omega
      rw [List.drop_length] at hinv
      have hw3 : ∀ p ∈ insP (.slice ua o.rs.length uc, o) outs, p ∈ ps := fun p hp => by
        rcases ins_mem hp with rfl | hp
        · exact m1
        · exact hmem p hp
      have hl3 := ins_len (.slice ua o.rs.length uc, o) outs
      cases d
      · rw [if_neg (by decide)] at hinv
        repeat' (first | refine aw_seq ?_ | ((first | apply ao_val | apply aq_val); exact wants_a; (first | exact ov_load_oa rfl hg cA rfl | exact ov_a); (exact rfl)) | refine zy ?_ | refine zon fun _ => ?_ | refine zoa fun vr lr hr => ?_ | refine zoS (fun _ => ?_) (fun _ => ?_) | refine zqS (fun _ => ?_) (fun _ => ?_) | refine zwS (fun _ => ?_) (fun _ => ?_))
        have hr2 := row_o hr
        rw [show nx ++ [((.slice ua o.rs.length uc : Value), o)] = insP (.slice ua o.rs.length uc, o) outs from hinv] at hr2
        exact lq_normal' ⟨i + 1, _, _, _, rfl, by omega, hnext.symm, by omega, hw3, hr2, rfl, rfl⟩ (by omega) (by repeat (first | exact sub_nil | refine sub_cons rfl ?_)) hsub_a
      · rw [if_pos rfl, List.append_nil] at hinv
        rw [hinv] at r5
        repeat' (first | refine aw_seq ?_ | refine zz ?_ | refine zon fun _ => ?_ | refine zoa fun vr lr hr => ?_ | refine zoS (fun _ => ?_) (fun _ => ?_) | refine zqS (fun _ => ?_) (fun _ => ?_) | refine zwS (fun _ => ?_) (fun _ => ?_))
        exact lq_normal' ⟨i + 1, _, _, _, rfl, by omega, hnext.symm, by omega, hw3, r5, rfl, rfl⟩ (by omega) (by repeat (first | exact sub_nil | refine sub_cons rfl ?_)) hsub_a
  · obtain rfl : i = ps.length := by omega
    rw [List.take_length] at hout
    subst hout
    repeat' (first | refine aw_seq ?_ | refine zz ?_ | refine zon fun _ => ?_ | refine zoa fun vr lr hr => ?_ | refine zoS (fun _ => ?_) (fun _ => ?_) | refine zqS (fun _ => ?_) (fun _ => ?_) | refine zwS (fun _ => ?_) (fun _ => ?_))
    exact fun w' hw => ⟨_, rfl, hw.below, _, r3, fun b o hm => hw.at_ b o (List.mem_append_left _ hm)⟩
end Evt
end Go.Proofs.Ytbllkmhkpapgeaa
