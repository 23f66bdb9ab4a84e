/- Contract of the document's answer for layer 4: Resources; conditions: names of at most 100,000 bytes, at most 100,000 resources. -/
import Derived.Test.YtifibkddjebmoaaVres
import Derived.Test.YtifibkddjebmoaaTy
namespace Go.Proofs.Ytifibkddjebmoaa
namespace Vec
open Go Go.RowKit Sx
attribute [local irreducible] Go.Calls

theorem res_ne {r s : Ent} (h : r ≠ s) : (!(eqAll [S r.1, I r.2] [S s.1, I s.2])) = true := by
  by_cases hq : eqAll [S r.1, I r.2] [S s.1, I s.2] = true
  · exfalso
    apply h
    simp only [eqAll, eqB, Bool.and_eq_true, beq_iff_eq] at hq
    have h1 : r.1 = s.1 := by simpa using hq.1
    exact Prod.ext h1 (by simpa using hq.2)
  · simpa using hq

set_option maxHeartbeats 8000000 in
theorem vresources_ok (v u : Value) (es fs : List Ent) (hw1 : wfR es) (hw2 : wfR fs) (w : World) (hv : ResAt w v es) (hu : ResAt w u fs) : Calls Try.prog 43 #[v, u] w fun e w' => e = .returned (.bool (es == fs)) ∧ Below w.heap.size w w' := by
  have hln := hw1.1
  have hln2 := hw2.1
  obtain ⟨a, c, rfl, hat⟩ := OldRow.cells cellsR_len hv
  obtain ⟨a2, c2, rfl, hat2⟩ := OldRow.cells cellsR_len hu
  refine calls1 (args := [.slice a es.length c, .slice a2 fs.length c2]) Try.func43 rfl rfl rfl rfl ?_
  by_cases hlen : es.length = fs.length
  · rw [← hlen]
    have hle : ((es.length : Int) != (es.length : Int)) = false := bne_self_eq_false _
    repeat' (first | refine aw_seq ?_ | refine zz ?_ | refine zon fun _ => ?_ | refine zoa fun vr lr hr => ?_ | refine zoS (fun _ => ?_) (fun _ => ?_) | refine zqS (fun _ => ?_) (fun _ => ?_) | refine zwS (fun _ => ?_) (fun _ => ?_))
    refine aw_for (t0 := [(0, .slice a es.length c), (1, .slice a2 es.length c2), (5, I (0 : Nat))]) (fun q t H => ∃ (i : Nat), q = es.length - i ∧ i ≤ es.length ∧ es.take i = fs.take i ∧ t = [(0, .slice a es.length c), (1, .slice a2 es.length c2), (5, I i)] ∧ H = []) ⟨0, rfl, by omega, rfl, rfl, rfl⟩ (by repeat (first | exact sub_nil | refine sub_cons rfl ?_)) ?_
    rintro q t H ⟨i, rfl, hi, htake, rfl, rfl⟩
    by_cases hlt : i < es.length
    · obtain ⟨e, he⟩ := getI hlt
      obtain ⟨f, hf⟩ := getI (show i < fs.length by omega)
      obtain ⟨g, o, rfl, hg, hc⟩ := hat i e (i : Int) he rfl
      obtain ⟨g2, o2, rfl, hg2, hc2⟩ := hat2 i f (i : Int) hf rfl
      obtain ⟨-, -, cA⟩ := res_cells hc
      obtain ⟨-, -, cB⟩ := res_cells hc2
      by_cases hef : e = f
      · subst hef
        repeat' (first | refine aw_seq ?_ | ((first | apply ao_val | apply aq_val); exact wants_a; (first | exact ov_load_oa rfl hg cA rfl | exact ov_load_oa rfl hg2 cB rfl | exact ov_a); (exact rfl)) | refine zy ?_ | refine zon fun _ => ?_ | refine zoa fun vr lr hr => ?_ | refine zoS (fun _ => ?_) (fun _ => ?_) | refine zqS (fun _ => ?_) (fun _ => ?_) | refine zwS (fun _ => ?_) (fun _ => ?_))
        exact lq_normal ⟨i + 1, rfl, by omega, by rw [List.take_add_one, List.take_add_one, htake, he, hf], rfl, rfl⟩ (by omega) (by repeat (first | exact sub_nil | refine sub_cons rfl ?_))
      · have hne : es ≠ fs := fun h => by rw [h, hf] at he; cases he; exact hef rfl
        rw [show (es == fs) = false from beq_eq_false_iff_ne.2 hne]
        have hb := res_ne hef
        repeat' (first | refine aw_seq ?_ | ((first | apply ao_val | apply aq_val); exact wants_a; (first | exact ov_load_oa rfl hg cA rfl | exact ov_load_oa rfl hg2 cB rfl | exact ov_a); (exact rfl)) | refine zy ?_ | refine zon fun _ => ?_ | refine zoa fun vr lr hr => ?_ | refine zoS (fun _ => ?_) (fun _ => ?_) | refine zqS (fun _ => ?_) (fun _ => ?_) | refine zwS (fun _ => ?_) (fun _ => ?_))
        exact fun w' hw => ⟨rfl, hw.below⟩
    · obtain rfl : i = es.length := by omega
      have : es = fs := by rw [List.take_length, hlen, List.take_length] at htake; exact htake
      rw [show (es == fs) = true from beq_iff_eq.2 this]
      repeat' (first | refine aw_seq ?_ | refine zz ?_ | refine zon fun _ => ?_ | refine zoa fun vr lr hr => ?_ | refine zoS (fun _ => ?_) (fun _ => ?_) | refine zqS (fun _ => ?_) (fun _ => ?_) | refine zwS (fun _ => ?_) (fun _ => ?_))
      exact fun w' hw => ⟨rfl, hw.below⟩
  · have hle : ((es.length : Int) != (fs.length : Int)) = true := bne_iff_ne.2 (by omega)
    rw [show (es == fs) = false from beq_eq_false_iff_ne.2 fun h => hlen (by rw [h])]
    repeat' (first | refine aw_seq ?_ | refine zz ?_ | refine zon fun _ => ?_ | refine zoa fun vr lr hr => ?_ | refine zoS (fun _ => ?_) (fun _ => ?_) | refine zqS (fun _ => ?_) (fun _ => ?_) | refine zwS (fun _ => ?_) (fun _ => ?_))
    exact fun w' hw => ⟨rfl, hw.below⟩
end Vec
end Go.Proofs.Ytifibkddjebmoaa
