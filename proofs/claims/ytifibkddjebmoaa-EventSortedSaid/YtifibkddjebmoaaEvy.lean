/- Contracts of the landed code of layer 7: Same, lists of objects' own, Own; conditions: names of at most 1,000 bytes, at most 100,000 objects and resources. -/
import Derived.Test.YtifibkddjebmoaaSxw
import Derived.Test.YtifibkddjebmoaaEvs
namespace Go.Proofs.Ytifibkddjebmoaa
namespace Evt
open Go Go.RowKit Sx Lab Vec Ojt
attribute [local irreducible] Go.Calls

set_option maxHeartbeats 16000000 in
theorem pobjs_ok (v u : Value) (ps qs : List PO) (hw1 : wfL ps) (hw2 : wfL qs) (w : World) (hv : ObjsAt w v ps) (hu : ObjsAt w u qs) :
    Calls Try.prog 29 #[v, u, .func (.func 28) #[] #[]] w fun e w' => e = .returned (.bool (decide (obs ps = obs qs))) ∧ Below w.heap.size w w' := by
  have hln := hw1.1
  have hln2 := hw2.1
  obtain ⟨a, c, rfl, hat⟩ := OldRow.cells cellsO_len hv.1
  obtain ⟨a2, c2, rfl, hat2⟩ := OldRow.cells cellsO_len hu.1
  refine calls1 (args := [.slice a ps.length c, .slice a2 qs.length c2, .func (.func 28) #[] #[]]) Try.func29 rfl rfl rfl rfl ?_
  by_cases hlen : ps.length = qs.length
  · rw [← hlen]
    have hle : ((ps.length : Int) != (ps.length : Int)) = false := bne_self_eq_false _
    repeat' (first | refine aw_seq ?_ | refine zz ?_ | refine zon fun _ => ?_ | refine zoa fun vr lr hr => ?_ | refine zoS (fun _ => ?_) (fun _ => ?_) | refine zqS (fun _ => ?_) (fun _ => ?_) | refine zwS (fun _ => ?_) (fun _ => ?_))
    refine aw_for (t0 := [(1, .slice a2 ps.length c2), (2, .func (.func 28) #[] #[]), (15, .slice a ps.length c), (16, I ps.length), (17, I (0 : Nat))]) (fun q t H => ∃ (i : Nat), q = ps.length - i ∧ i ≤ ps.length ∧ (obs ps).take i = (obs qs).take i ∧ t = [(1, .slice a2 ps.length c2), (2, .func (.func 28) #[] #[]), (15, .slice a ps.length c), (16, I ps.length), (17, I i)] ∧ H = []) ⟨0, rfl, by omega, rfl, rfl, rfl⟩ (by repeat (first | exact sub_nil | refine sub_cons rfl ?_)) ?_
    rintro q t H ⟨i, rfl, hi, htake, rfl, rfl⟩
    by_cases hlt : i < ps.length
    · obtain ⟨⟨x, o⟩, he⟩ := getP hlt
      obtain ⟨⟨y, p⟩, hf⟩ := getP (show i < qs.length by omega)
      have m1 := List.mem_of_getElem? he
      have m2 := List.mem_of_getElem? hf
      obtain ⟨xa, xc, hx⟩ := (hv.2 _ m1).len
      obtain ⟨ya, yc, hy⟩ := (hu.2 _ m2).len
      simp only at hx hy
      subst hx hy
      obtain ⟨g, o1, rfl, hg, hc⟩ := hat i _ (i : Int) he rfl
      obtain ⟨g2, o2, rfl, hg2, hc2⟩ := hat2 i _ (i : Int) hf rfl
      have cA : ∀ (j : Nat) z, [S o.k, S o.s, S o.n, I o.ver, S o.c, .bool o.tm, .bool o.bs, .slice xa o.rs.length xc][j]? = some z → w.cell? ⟨g, o1 + (i : Int).toNat * 8 + j, none⟩ = some z := hc
      have cB : ∀ (j : Nat) z, [S p.k, S p.s, S p.n, I p.ver, S p.c, .bool p.tm, .bool p.bs, .slice ya p.rs.length yc][j]? = some z → w.cell? ⟨g2, o2 + (i : Int).toNat * 8 + j, none⟩ = some z := hc2
      have t1 : (obs ps)[i]? = some o := by rw [List.getElem?_map, he]; rfl
      have t2 : (obs qs)[i]? = some p := by rw [List.getElem?_map, hf]; rfl
      have hs := fun w' (hb : Below w.heap.size w w') => Ojt.same_ok o p _ _ (hw1.2 _ m1).wfO (hw2.2 _ m2).wfO w' ((hv.2 _ m1).below hb) ((hu.2 _ m2).below hb)
      rw [same_eq] at hs
      by_cases hop : o = p
      · subst hop
        rw [decide_eq_true rfl] at hs
        repeat' (first | refine aw_seq ?_ | ((first | apply ao_val | apply aq_val); exact wants_a; (first | exact ov_load_oa rfl hg cA rfl | exact ov_load_oa rfl hg2 cB rfl | exact ov_a); (exact rfl)) | refine zy ?_ | refine zon fun _ => ?_ | refine zoa fun vr lr hr => ?_ | ((first | apply ao_call | apply aq_call); exact wants_a; (first | exact oc_func rfl | exact oc_clos rfl rfl); (exact rfl); (first | exact fun w hw => hs w hw.below)) | refine zoS (fun _ => ?_) (fun _ => ?_) | refine zqS (fun _ => ?_) (fun _ => ?_) | refine zwS (fun _ => ?_) (fun _ => ?_))
        exact lq_normal' ⟨i + 1, rfl, by omega, by rw [List.take_add_one, List.take_add_one, htake, t1, t2], rfl, rfl⟩ (by omega) (by repeat (first | exact sub_nil | refine sub_cons rfl ?_)) hsub_a
      · rw [decide_eq_false hop] at hs
        rw [decide_eq_false fun h => by rw [h, t2] at t1; exact hop (Option.some.inj t1).symm]
        repeat' (first | refine aw_seq ?_ | ((first | apply ao_val | apply aq_val); exact wants_a; (first | exact ov_load_oa rfl hg cA rfl | exact ov_load_oa rfl hg2 cB rfl | exact ov_a); (exact rfl)) | refine zy ?_ | refine zon fun _ => ?_ | refine zoa fun vr lr hr => ?_ | ((first | apply ao_call | apply aq_call); exact wants_a; (first | exact oc_func rfl | exact oc_clos rfl rfl); (exact rfl); (first | exact fun w hw => hs w hw.below)) | refine zoS (fun _ => ?_) (fun _ => ?_) | refine zqS (fun _ => ?_) (fun _ => ?_) | refine zwS (fun _ => ?_) (fun _ => ?_))
        exact fun w' hw => ⟨rfl, hw.below⟩
    · obtain rfl : i = ps.length := by omega
      have l1 : (obs ps).length = ps.length := List.length_map _
      have l2 : (obs qs).length = qs.length := List.length_map _
      rw [decide_eq_true (by rw [← l1, List.take_length, l1, hlen, ← l2, List.take_length] at htake; exact htake)]
      repeat' (first | refine aw_seq ?_ | refine zz ?_ | refine zon fun _ => ?_ | refine zoa fun vr lr hr => ?_ | refine zoS (fun _ => ?_) (fun _ => ?_) | refine zqS (fun _ => ?_) (fun _ => ?_) | refine zwS (fun _ => ?_) (fun _ => ?_))
      exact fun w' hw => ⟨rfl, hw.below⟩
  · have hle : ((ps.length : Int) != (qs.length : Int)) = true := bne_iff_ne.2 (by omega)
    rw [decide_eq_false fun h => hlen (robjs_len h)]
    repeat' (first | refine aw_seq ?_ | refine zz ?_ | refine zon fun _ => ?_ | refine zoa fun vr lr hr => ?_ | refine zoS (fun _ => ?_) (fun _ => ?_) | refine zqS (fun _ => ?_) (fun _ => ?_) | refine zwS (fun _ => ?_) (fun _ => ?_))
    exact fun w' hw => ⟨rfl, hw.below⟩

set_option maxHeartbeats 8000000 in
theorem psame_ok (k1 : Int) (p1 : PO) (v1 : Int) (v : Value) (ps : List PO) (k2 : Int) (p2 : PO) (v2 : Int) (u : Value) (qs : List PO) (hwo1 : wfS p1.2) (hwf1 : wfL ps) (hwo2 : wfS p2.2) (hwf2 : wfL qs) (w : World)
    (ho1 : ResAt w p1.1 p1.2.rs) (hv1 : ObjsAt w v ps) (ho2 : ResAt w p2.1 p2.2.rs) (hv2 : ObjsAt w u qs) :
    Calls Try.prog 16 #[EV k1 p1 v1 v, EV k2 p2 v2 u] w fun e w' => e = .returned (.bool (sameE k1 p1.2 v1 ps k2 p2.2 v2 qs)) ∧ Below w.heap.size w w' := by
  have h1 := fun w' (hb : Below w.heap.size w w') => Ojt.same_ok p1.2 p2.2 p1.1 p2.1 hwo1.wfO hwo2.wfO w' (ho1.below hb) (ho2.below hb)
  have h2 := fun w' (hb : Below w.heap.size w w') => pobjs_ok v u ps qs hwf1 hwf2 w' (hv1.below hb) (hv2.below hb)
  rw [same_eq] at h1
  obtain ⟨x, k, s, n, over, c, tm, bs, rs⟩ := p1
  obtain ⟨y, k', s', n', over', c', tm', bs', rs'⟩ := p2
  simp only at ho1 ho2 h1 ⊢
  obtain ⟨xa, xc, rfl⟩ := ho1.len
  obtain ⟨ya, yc, rfl⟩ := ho2.len
  obtain ⟨a, cp, rfl⟩ := hv1.1.len
  obtain ⟨b, cb, rfl⟩ := hv2.1.len
  refine calls1 (args := [EV k1 (.slice xa rs.length xc, ⟨k, s, n, over, c, tm, bs, rs⟩) v1 (.slice a ps.length cp), EV k2 (.slice ya rs'.length yc, ⟨k', s', n', over', c', tm', bs', rs'⟩) v2 (.slice b qs.length cb)]) Try.func16 rfl rfl rfl rfl ?_
  unfold sameE
  generalize decide ((⟨k, s, n, over, c, tm, bs, rs⟩ : Ob) = ⟨k', s', n', over', c', tm', bs', rs'⟩) = b1 at h1 ⊢
  generalize decide (obs ps = obs qs) = b2 at h2 ⊢
  repeat' (first | refine aw_seq ?_ | refine zz ?_ | refine zon fun _ => ?_ | refine zoa fun vr lr hr => ?_ | ((first | apply ao_call | apply aq_call); exact wants_a; (first | exact oc_func rfl | exact oc_clos rfl rfl); (exact rfl); (first | exact fun w hw => h1 w hw.below | exact fun w hw => h2 w hw.below)) | refine zoS (fun _ => ?_) (fun _ => ?_) | refine zqS (fun _ => ?_) (fun _ => ?_) | refine zwS (fun _ => ?_) (fun _ => ?_))
  all_goals exact ret_bool (by simp only [*, Bool.true_and, Bool.false_and, Bool.and_false, Bool.and_true])

/-- Objects in new memory, all of whose room is in use. -/
def DOwn (os : List Ob) (v : Value) (l : Hp) : Prop := ∃ (outs : List PO) (g : Nat) (ls : Hp), obs outs = os ∧ v = .slice (some ⟨g, 0, none⟩) outs.length outs.length ∧ l = (g, .cells (outs.flatMap cellsO).toArray 27 (0, 0)) :: ls ∧ Parts KO ls outs
theorem DOwn.objs {os : List Ob} {v : Value} {l : Hp} (h : DOwn os v l) : DObjs os v l := by
  obtain ⟨outs, g, ls, h1, rfl, rfl, h2⟩ := h
  exact ⟨outs, [(g, _)], ls, h1, rfl, RowB.lit (flat_len cellsO_len outs), h2⟩
theorem flat_o {e : TypeId} {sz n : Nat} {v : Value} {l : Hp} {xs : List Value} (h : RowB e sz v l n xs) (o : Ob) : (cellsO (v, o)).all flat = true := by
  obtain ⟨a, c, rfl⟩ := h.len
  rfl
abbrev Cs8 := { l : List Value // l.length = 8 }

set_option maxHeartbeats 16000000 in
theorem powned_ok (v : Value) (ps : List PO) (hwf : wfL ps) (w : World) (hv : ObjsAt w v ps) :
    Calls Try.prog 22 #[v] w fun e w' => ∃ r, e = .returned r ∧ NewD (DOwn (obs ps)) w w' r := by
  have hln := hwf.1
  obtain ⟨a, cp, rfl, hat⟩ := OldRow.cells cellsO_len hv.1
  refine calls1 (args := [.slice a ps.length cp]) Try.func22 rfl rfl rfl rfl ?_
  repeat' (first | refine aw_seq ?_ | refine zz ?_ | refine zon fun _ => ?_ | refine zoa fun vr lr hr => ?_ | ((apply ao_make; exact wants_a; exact rfl; exact rfl; omega; omega; exact rfl; intro b1 cs1 hl1)) | refine zoS (fun _ => ?_) (fun _ => ?_) | refine zqS (fun _ => ?_) (fun _ => ?_) | refine zwS (fun _ => ?_) (fun _ => ?_))
  obtain ⟨d0, rfl⟩ := cells_row hl1
  refine aw_for (t0 := [(3, .slice (some ⟨b1, 0, none⟩) ps.length ps.length), (9, .slice a ps.length cp), (10, I ps.length), (11, I (0 : Nat))])
    (fun q t H => ∃ (i : Nat) (d : Nat → Cs8) (outs : List PO) (ls : Hp), q = ps.length - i ∧ i ≤ ps.length ∧ outs.length = i ∧ obs outs = (obs ps).take i ∧ (∀ (k : Nat) u, outs[k]? = some u → (d k).val = cellsO u) ∧ Parts KO ls outs ∧
      t = [(3, .slice (some ⟨b1, 0, none⟩) ps.length ps.length), (9, .slice a ps.length cp), (10, I ps.length), (11, I i)] ∧ H = ls ++ [(b1, .cells (rowL Subtype.val ps.length d).toArray 27 (0, 0))])
    ⟨0, d0, [], [], rfl, by omega, rfl, rfl, fun k u h => by simp at h, Parts.nil, rfl, rfl⟩ (by repeat (first | exact sub_nil | refine sub_cons rfl ?_)) ?_
  rintro q t H ⟨i, d, outs, ls, rfl, hi, hol, hobs, hcells, hparts, rfl, rfl⟩
  by_cases hlt : i < ps.length
  · obtain ⟨⟨x, o⟩, he⟩ := getP hlt
    have m1 := List.mem_of_getElem? he
    have hra := hv.2 _ m1
    have hws := hwf.2 _ m1
    obtain ⟨xa, xc, hx⟩ := hra.len
    simp only at hx
    subst hx
    obtain ⟨g, o1, rfl, hg, hc⟩ := hat i _ (i : Int) he rfl
    have cA : ∀ (j : Nat) z, [S o.k, S o.s, S o.n, I o.ver, S o.c, .bool o.tm, .bool o.bs, .slice xa o.rs.length xc][j]? = some z → w.cell? ⟨g, o1 + (i : Int).toNat * 8 + j, none⟩ = some z := hc
    repeat' (first | refine aw_seq ?_ | ((first | apply ao_val | apply aq_val); exact wants_a; (first | exact ov_load_oa rfl hg cA rfl | exact ov_a); (exact rfl)) | refine zy ?_ | refine zon fun _ => ?_ | refine zoa fun vr lr hr => ?_ | (apply ao_callrg; exact wants_a; (exact oc_func rfl); (exact rfl); (first | exact fun w hw => Ojt.own_ok o _ hws.wfO w (hra.below hw.below)); intro vr lr hr) | ((refine ao_is ?_; apply ao_store; exact wants_a; (apply ow_storeX (f := Subtype.val) (x := (⟨cellsO (vr, o), rfl⟩ : Cs8)) (fun a => a.2) (flat_o hr o) (i := i); (exact rfl); omega; (exact rfl); exact has_a; omega); exact upd_a)) | refine zoS (fun _ => ?_) (fun _ => ?_) | refine zqS (fun _ => ?_) (fun _ => ?_) | refine zwS (fun _ => ?_) (fun _ => ?_))
    refine lq_normal' (H' := (lr ++ ls) ++ [(b1, .cells (rowL Subtype.val ps.length (upd d i (⟨cellsO (vr, o), rfl⟩ : Cs8))).toArray 27 (0, 0))]) ⟨i + 1, _, outs ++ [(vr, o)], lr ++ ls, rfl, by omega, by rw [List.length_append, hol]; rfl, ?_, fun k u hk => ?_, hparts.snoc hr, rfl, rfl⟩ (by omega) (by repeat (first | exact sub_nil | refine sub_cons rfl ?_)) (by rw [List.append_assoc]; exact hsub_a)
    · have t1 : (obs ps)[i]? = some o := by rw [List.getElem?_map, he]; rfl
      rw [List.take_add_one, t1, ← hobs]
      exact List.map_append
    · unfold upd
      by_cases hki : k = i
      · subst hki
        rw [if_pos rfl]
        rw [← hol, List.getElem?_append_right (Nat.le_refl _), Nat.sub_self] at hk
        simp only [List.getElem?_cons_zero, Option.some.injEq] at hk
        subst hk
        rfl
      · rw [if_neg hki]
        have hlt2 := (List.getElem?_eq_some_iff.1 hk).1
        rw [List.length_append, List.length_singleton] at hlt2
        rw [List.getElem?_append_left (by omega)] at hk
        exact hcells k u hk
  · obtain rfl : i = ps.length := by omega
    rw [← obs_len, List.take_length] at hobs
    have hrow := row_is hol hcells
    rw [hrow]
    repeat' (first | refine aw_seq ?_ | refine zz ?_ | refine zon fun _ => ?_ | refine zoa fun vr lr hr => ?_ | refine zoS (fun _ => ?_) (fun _ => ?_) | refine zqS (fun _ => ?_) (fun _ => ?_) | refine zwS (fun _ => ?_) (fun _ => ?_))
    exact fun w' hw => ⟨_, rfl, hw.toD rfl (l := (b1, .cells (outs.flatMap cellsO).toArray 27 (0, 0)) :: ls) (R := []) (by unfold Cut; rw [List.append_nil]; exact List.perm_append_comm) ⟨outs, b1, ls, hobs, by rw [hol], rfl, hparts⟩⟩
end Evt
end Go.Proofs.Ytifibkddjebmoaa
