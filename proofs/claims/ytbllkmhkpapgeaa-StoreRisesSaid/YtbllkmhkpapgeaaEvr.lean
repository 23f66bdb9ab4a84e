/- Contracts of the document's answer for layers 5 and 7: lists of objects; Right, Version, Same; conditions: names of at most 1,000 bytes, at most 100,000 objects and resources. -/
import Derived.Test.YtbllkmhkpapgeaaEvn
namespace Go.Proofs.Ytbllkmhkpapgeaa
namespace Evt
open Go Go.RowKit Sx Lab Vec Ojt
attribute [local irreducible] Go.Calls

theorem robjs_len {ps qs : List PO} (h : obs ps = obs qs) : ps.length = qs.length := by
  have := congrArg List.length h
  rw [List.length_map, List.length_map] at this
  exact this
set_option maxHeartbeats 16000000 in
theorem robjs_ok (v u : Value) (ps qs : List PO) (hw1 : wfL ps) (hw2 : wfL qs) (w : World) (hv : ObjsAt w v ps) (hu : ObjsAt w u qs) : Calls Try.prog 26 #[v, u] w fun e w' => e = .returned (.bool (decide (obs ps = obs qs))) ∧ Below w.heap.size w w' := by
  have hln := hw1.1
  have hln2 := hw2.1
  obtain ⟨a, c, rfl, hat⟩ := OldRow.cells cellsO_len hv.1
  obtain ⟨a2, c2, rfl, hat2⟩ := OldRow.cells cellsO_len hu.1
  refine calls1 (args := [.slice a ps.length c, .slice a2 qs.length c2]) Try.func26 rfl rfl rfl rfl ?_
  by_cases hlen : ps.length = qs.length
  · rw [← hlen]
    have hle : ((ps.length : Int) != (ps.length : Int)) = false := bne_self_eq_false _
    repeat' (first | refine aw_seq ?_ | refine zz ?_ | refine zon fun _ => ?_ | refine zoa fun vr lr hr => ?_ | refine zoS (fun _ => ?_) (fun _ => ?_) | refine zqS (fun _ => ?_) (fun _ => ?_) | refine zwS (fun _ => ?_) (fun _ => ?_))
    refine aw_for (t0 := [(0, .slice a ps.length c), (1, .slice a2 ps.length c2), (5, I (0 : Nat))]) (fun q t H => ∃ (i : Nat), q = ps.length - i ∧ i ≤ ps.length ∧ (obs ps).take i = (obs qs).take i ∧ t = [(0, .slice a ps.length c), (1, .slice a2 ps.length c2), (5, I i)] ∧ H = []) ⟨0, rfl, by omega, rfl, rfl, rfl⟩ (by repeat (first | exact sub_nil | refine sub_cons rfl ?_)) ?_
    rintro q t H ⟨i, rfl, hi, htake, rfl, rfl⟩
    by_cases hlt : i < ps.length
    · obtain ⟨⟨x, o⟩, he⟩ := getP hlt
      obtain ⟨⟨y, p⟩, hf⟩ := getP (show i < qs.length by omega)
      obtain ⟨g, o1, rfl, hg, hc⟩ := hat i _ (i : Int) he rfl
      obtain ⟨g2, o2, rfl, hg2, hc2⟩ := hat2 i _ (i : Int) hf rfl
      have cA : ∀ (j : Nat) z, [S o.k, S o.s, S o.n, I o.ver, S o.c, .bool o.tm, .bool o.bs, x][j]? = some z → w.cell? ⟨g, o1 + (i : Int).toNat * 8 + j, none⟩ = some z := hc
      have cB : ∀ (j : Nat) z, [S p.k, S p.s, S p.n, I p.ver, S p.c, .bool p.tm, .bool p.bs, y][j]? = some z → w.cell? ⟨g2, o2 + (i : Int).toNat * 8 + j, none⟩ = some z := hc2
      have m1 := List.mem_of_getElem? he
      have m2 := List.mem_of_getElem? hf
      have t1 : (obs ps)[i]? = some o := by rw [List.getElem?_map, he]; rfl
      have t2 : (obs qs)[i]? = some p := by rw [List.getElem?_map, hf]; rfl
      have hs := fun w' (hb : Below w.heap.size w w') => rsame_ok o p x y (hw1.2 _ m1).wfO (hw2.2 _ m2).wfO w' ((hv.2 _ m1).below hb) ((hu.2 _ m2).below hb)
      rw [same_eq] at hs
      by_cases hop : o = p
      · subst hop
        rw [decide_eq_true rfl] at hs
        repeat' (first | refine aw_seq ?_ | ((first | apply ao_val | apply aq_val); exact wants_a; (first | exact ov_load_oa rfl hg cA rfl | exact ov_load_oa rfl hg2 cB rfl | exact ov_a); (exact rfl)) | refine zy ?_ | refine zon fun _ => ?_ | refine zoa fun vr lr hr => ?_ | ((first | apply ao_call | apply aq_call); exact wants_a; (first | exact oc_func rfl | exact oc_clos rfl rfl); (exact rfl); (first | exact fun w hw => hs w hw.below)) | refine zoS (fun _ => ?_) (fun _ => ?_) | refine zqS (fun _ => ?_) (fun _ => ?_) | refine zwS (fun _ => ?_) (fun _ => ?_))
        exact lq_normal ⟨i + 1, rfl, by omega, by rw [List.take_add_one, List.take_add_one, htake, t1, t2], rfl, rfl⟩ (by omega) (by repeat (first | exact sub_nil | refine sub_cons rfl ?_))
      · rw [decide_eq_false hop] at hs
        rw [decide_eq_false fun h => by rw [h, t2] at t1; exact hop (Option.some.inj t1).symm]
        repeat' (first | refine aw_seq ?_ | ((first | apply ao_val | apply aq_val); exact wants_a; (first | exact ov_load_oa rfl hg cA rfl | exact ov_load_oa rfl hg2 cB rfl | exact ov_a); (exact rfl)) | refine zy ?_ | refine zon fun _ => ?_ | refine zoa fun vr lr hr => ?_ | ((first | apply ao_call | apply aq_call); exact wants_a; (first | exact oc_func rfl | exact oc_clos rfl rfl); (exact rfl); (first | exact fun w hw => hs w hw.below)) | refine zoS (fun _ => ?_) (fun _ => ?_) | refine zqS (fun _ => ?_) (fun _ => ?_) | refine zwS (fun _ => ?_) (fun _ => ?_))
        exact fun w' hw => ⟨rfl, hw.below⟩
    · obtain rfl : i = ps.length := by omega
      have l1 : (obs ps).length = ps.length := List.length_map _
      have l2 : (obs qs).length = qs.length := List.length_map _
      rw [decide_eq_true (by rw [← l1, List.take_length, l1, hlen, ← l2, List.take_length] at htake; exact htake)]
      repeat' (first | refine aw_seq ?_ | refine zz ?_ | refine zon fun _ => ?_ | refine zoa fun vr lr hr => ?_ | refine zoS (fun _ => ?_) (fun _ => ?_) | refine zqS (fun _ => ?_) (fun _ => ?_) | refine zwS (fun _ => ?_) (fun _ => ?_))
      exact fun w' hw => ⟨rfl, hw.below⟩
  · have hle : ((ps.length : Int) != (qs.length : Int)) = true := bne_iff_ne.2 (by omega)
    rw [decide_eq_false fun h => hlen (robjs_len h)]
    repeat' (first | refine aw_seq ?_ | refine zz ?_ | refine zon fun _ => ?_ | refine zoa fun vr lr hr => ?_ | refine zoS (fun _ => ?_) (fun _ => ?_) | refine zqS (fun _ => ?_) (fun _ => ?_) | refine zwS (fun _ => ?_) (fun _ => ?_))
    exact fun w' hw => ⟨rfl, hw.below⟩

end Evt
end Go.Proofs.Ytbllkmhkpapgeaa
