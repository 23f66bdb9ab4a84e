/- Contracts of the document's answer for layer 6: Same, Text; conditions: values of at most 100,000 bytes, lists of at most 100,000. -/
import Derived.Test.YtlokhemlpmalaaaDoorScpt
namespace Go.Proofs.YtlokhemlpmalaaaDoor
namespace Scp
open Go Go.RowKit Sx Lab
attribute [local irreducible] Go.Calls

set_option maxHeartbeats 8000000 in
theorem rtexts_ok (v u : Value) (es fs : List Nm) (hw1 : wfN es) (hw2 : wfN fs) (w : World) (hv : TxtAt w v es) (hu : TxtAt w u fs) : Calls Tryd.prog 29 #[v, u] w fun e w' => e = .returned (.bool (es == fs)) ∧ Below w.heap.size w w' := by
  have hln := hw1.1
  have hln2 := hw2.1
  obtain ⟨a, c, rfl, hat⟩ := OldRow.cells cellsS_len hv
  obtain ⟨a2, c2, rfl, hat2⟩ := OldRow.cells cellsS_len hu
  refine calls1 (args := [.slice a es.length c, .slice a2 fs.length c2]) Tryd.func29 rfl rfl rfl rfl ?_
  by_cases hlen : es.length = fs.length
  · rw [← hlen]
    have hle : ((es.length : Int) != (es.length : Int)) = false := bne_self_eq_false _
    repeat' (first | refine aw_seq ?_ | refine zz ?_ | refine zon fun _ => ?_ | refine zoa fun vr lr hr => ?_ | refine zoS (fun _ => ?_) (fun _ => ?_) | refine zqS (fun _ => ?_) (fun _ => ?_) | refine zwS (fun _ => ?_) (fun _ => ?_))
    refine aw_for (t0 := [(0, .slice a es.length c), (1, .slice a2 es.length c2), (5, I (0 : Nat))]) (fun q t H => ∃ (i : Nat), q = es.length - i ∧ i ≤ es.length ∧ es.take i = fs.take i ∧ t = [(0, .slice a es.length c), (1, .slice a2 es.length c2), (5, I i)] ∧ H = []) ⟨0, rfl, by omega, rfl, rfl, rfl⟩ (by repeat (first | exact sub_nil | refine sub_cons rfl ?_)) ?_
    rintro q t H ⟨i, rfl, hi, htake, rfl, rfl⟩
    by_cases hlt : i < es.length
    · obtain ⟨e, he⟩ := getI hlt
      obtain ⟨f, hf⟩ := getI (show i < fs.length by omega)
      obtain ⟨g, o, rfl, hg, hc⟩ := hat i e (i : Int) he rfl
      obtain ⟨g2, o2, rfl, hg2, hc2⟩ := hat2 i f (i : Int) hf rfl
      have c0 : w.cell? ⟨g, o + (i : Int).toNat * 1, none⟩ = some (S e) := hc 0 _ rfl
      have d0 : w.cell? ⟨g2, o2 + (i : Int).toNat * 1, none⟩ = some (S f) := hc2 0 _ rfl
      by_cases hef : e = f
      · subst hef
        have hb : (e != e) = false := bne_self_eq_false _
        repeat' (first | refine aw_seq ?_ | refine zz ?_ | refine zon fun _ => ?_ | refine zoa fun vr lr hr => ?_ | refine zoS (fun _ => ?_) (fun _ => ?_) | refine zqS (fun _ => ?_) (fun _ => ?_) | refine zwS (fun _ => ?_) (fun _ => ?_))
        exact lq_normal ⟨i + 1, rfl, by omega, by rw [List.take_add_one, List.take_add_one, htake, he, hf], rfl, rfl⟩ (by omega) (by repeat (first | exact sub_nil | refine sub_cons rfl ?_))
      · have hne : es ≠ fs := fun h => by rw [h, hf] at he; cases he; exact hef rfl
        rw [show (es == fs) = false from beq_eq_false_iff_ne.2 hne]
        have hb : (e != f) = true := bne_iff_ne.2 hef
        repeat' (first | refine aw_seq ?_ | refine zz ?_ | refine zon fun _ => ?_ | refine zoa fun vr lr hr => ?_ | refine zoS (fun _ => ?_) (fun _ => ?_) | refine zqS (fun _ => ?_) (fun _ => ?_) | refine zwS (fun _ => ?_) (fun _ => ?_))
        exact fun w' hw => ⟨rfl, hw.below⟩
    · obtain rfl : i = es.length := by omega
      have : es = fs := by rw [List.take_length, hlen, List.take_length] at htake; exact htake
      rw [show (es == fs) = true from beq_iff_eq.2 this]
      repeat' (first | refine aw_seq ?_ | refine zz ?_ | refine zon fun _ => ?_ | refine zoa fun vr lr hr => ?_ | refine zoS (fun _ => ?_) (fun _ => ?_) | refine zqS (fun _ => ?_) (fun _ => ?_) | refine zwS (fun _ => ?_) (fun _ => ?_))
      exact fun w' hw => ⟨rfl, hw.below⟩
  · have hle : ((es.length : Int) != (fs.length : Int)) = true := bne_iff_ne.2 (by omega)
    rw [show (es == fs) = false from beq_eq_false_iff_ne.2 fun h => hlen (by rw [h])]
    repeat' (first | refine aw_seq ?_ | refine zz ?_ | refine zon fun _ => ?_ | refine zoa fun vr lr hr => ?_ | refine zoS (fun _ => ?_) (fun _ => ?_) | refine zqS (fun _ => ?_) (fun _ => ?_) | refine zwS (fun _ => ?_) (fun _ => ?_))
    exact fun w' hw => ⟨rfl, hw.below⟩



set_option maxHeartbeats 16000000 in
theorem rsame_ok (v u : Value) (ps qs : List (Value × Trm)) (hw1 : wfP ps) (hw2 : wfP qs) (w : World) (hv : ScpAt w v ps) (hu : ScpAt w u qs) : Calls Tryd.prog 18 #[v, u] w fun e w' => e = .returned (.bool (trms ps == trms qs)) ∧ Below w.heap.size w w' := by
  have hln := hw1.1
  have hln2 := hw2.1
  have l1 : (trms ps).length = ps.length := List.length_map _
  have l2 : (trms qs).length = qs.length := List.length_map _
  obtain ⟨a, c, rfl, hat⟩ := OldRow.cells cellsT_len hv.1
  obtain ⟨a2, c2, rfl, hat2⟩ := OldRow.cells cellsT_len hu.1
  refine calls1 (args := [.slice a ps.length c, .slice a2 qs.length c2]) Tryd.func18 rfl rfl rfl rfl ?_
  by_cases hlen : ps.length = qs.length
  · rw [← hlen]
    have hle : ((ps.length : Int) != (ps.length : Int)) = false := bne_self_eq_false _
    repeat' (first | refine aw_seq ?_ | refine zz ?_ | refine zon fun _ => ?_ | refine zoa fun vr lr hr => ?_ | refine zoS (fun _ => ?_) (fun _ => ?_) | refine zqS (fun _ => ?_) (fun _ => ?_) | refine zwS (fun _ => ?_) (fun _ => ?_))
    refine aw_for (t0 := [(0, .slice a ps.length c), (1, .slice a2 ps.length c2), (5, I (0 : Nat))]) (fun q t H => ∃ (i : Nat), q = ps.length - i ∧ i ≤ ps.length ∧ (trms ps).take i = (trms qs).take i ∧ t = [(0, .slice a ps.length c), (1, .slice a2 ps.length c2), (5, I i)] ∧ H = []) ⟨0, rfl, by omega, rfl, rfl, rfl⟩ (by repeat (first | exact sub_nil | refine sub_cons rfl ?_)) ?_
    rintro q t H ⟨i, rfl, hi, htake, rfl, rfl⟩
    by_cases hlt : i < ps.length
    · obtain ⟨⟨x, op, vs⟩, he⟩ := getI hlt
      obtain ⟨⟨y, op2, us⟩, hf⟩ := getI (show i < qs.length by omega)
      obtain ⟨g, o, rfl, hg, hc⟩ := hat i _ (i : Int) he rfl
      obtain ⟨g2, o2, rfl, hg2, hc2⟩ := hat2 i _ (i : Int) hf rfl
      have c0 : w.cell? ⟨g, o + (i : Int).toNat * 2 + 0, none⟩ = some (I op) := hc 0 _ rfl
      have c1 : w.cell? ⟨g, o + (i : Int).toNat * 2 + 1, none⟩ = some x := hc 1 _ rfl
      have d0 : w.cell? ⟨g2, o2 + (i : Int).toNat * 2 + 0, none⟩ = some (I op2) := hc2 0 _ rfl
      have d1 : w.cell? ⟨g2, o2 + (i : Int).toNat * 2 + 1, none⟩ = some y := hc2 1 _ rfl
      have m1 := List.mem_of_getElem? he
      have m2 := List.mem_of_getElem? hf
      have t1 := trm_at he
      have t2 := trm_at hf
      have ht := fun w' (hb : Below w.heap.size w w') => rtexts_ok x y vs us (hw1.2 _ m1) (hw2.2 _ m2) w' ((hv.2 _ m1).below hb) ((hu.2 _ m2).below hb)
      have hno : (op, vs) ≠ (op2, us) → (trms ps == trms qs) = false := fun h => beq_eq_false_iff_ne.2 fun h2 => by rw [h2, t2] at t1; exact h (Option.some.inj t1).symm
      by_cases hef : vs = us
      · subst hef
        rw [show (vs == vs) = true from beq_self_eq_true vs] at ht
        by_cases hop : op = op2
        · subst hop
          have hb : (op != op) = false := bne_self_eq_false _
          repeat' (first | refine aw_seq ?_ | refine zz ?_ | refine zon fun _ => ?_ | refine zoa fun vr lr hr => ?_ | ((first | apply ao_call | apply aq_call); exact wants_a; (first | exact oc_func rfl | exact oc_clos rfl rfl); (exact rfl); (first | exact fun w hw => ht w hw.below)) | refine zoS (fun _ => ?_) (fun _ => ?_) | refine zqS (fun _ => ?_) (fun _ => ?_) | refine zwS (fun _ => ?_) (fun _ => ?_))
          exact lq_normal ⟨i + 1, rfl, by omega, by rw [List.take_add_one, List.take_add_one, htake, t1, t2], rfl, rfl⟩ (by omega) (by repeat (first | exact sub_nil | refine sub_cons rfl ?_))
        · rw [hno fun h => hop (Prod.ext_iff.1 h).1]
          have hb : (op != op2) = true := bne_iff_ne.2 hop
          repeat' (first | refine aw_seq ?_ | refine zz ?_ | refine zon fun _ => ?_ | refine zoa fun vr lr hr => ?_ | ((first | apply ao_call | apply aq_call); exact wants_a; (first | exact oc_func rfl | exact oc_clos rfl rfl); (exact rfl); (first | exact fun w hw => ht w hw.below)) | refine zoS (fun _ => ?_) (fun _ => ?_) | refine zqS (fun _ => ?_) (fun _ => ?_) | refine zwS (fun _ => ?_) (fun _ => ?_))
          exact fun w' hw => ⟨rfl, hw.below⟩
      · rw [hno fun h => hef (Prod.ext_iff.1 h).2]
        rw [show (vs == us) = false from beq_eq_false_iff_ne.2 hef] at ht
        repeat' (first | refine aw_seq ?_ | refine zz ?_ | refine zon fun _ => ?_ | refine zoa fun vr lr hr => ?_ | ((first | apply ao_call | apply aq_call); exact wants_a; (first | exact oc_func rfl | exact oc_clos rfl rfl); (exact rfl); (first | exact fun w hw => ht w hw.below)) | refine zoS (fun _ => ?_) (fun _ => ?_) | refine zqS (fun _ => ?_) (fun _ => ?_) | refine zwS (fun _ => ?_) (fun _ => ?_))
        exact fun w' hw => ⟨rfl, hw.below⟩
    · obtain rfl : i = ps.length := by omega
      have : trms ps = trms qs := by rw [← l1, List.take_length, l1, hlen, ← l2, List.take_length] at htake; exact htake
      rw [show (trms ps == trms qs) = true from beq_iff_eq.2 this]
      repeat' (first | refine aw_seq ?_ | refine zz ?_ | refine zon fun _ => ?_ | refine zoa fun vr lr hr => ?_ | refine zoS (fun _ => ?_) (fun _ => ?_) | refine zqS (fun _ => ?_) (fun _ => ?_) | refine zwS (fun _ => ?_) (fun _ => ?_))
      exact fun w' hw => ⟨rfl, hw.below⟩
  · have hle : ((ps.length : Int) != (qs.length : Int)) = true := bne_iff_ne.2 (by omega)
    rw [show (trms ps == trms qs) = false from beq_eq_false_iff_ne.2 fun h => hlen (by rw [← l1, ← l2, h])]
    repeat' (first | refine aw_seq ?_ | refine zz ?_ | refine zon fun _ => ?_ | refine zoa fun vr lr hr => ?_ | refine zoS (fun _ => ?_) (fun _ => ?_) | refine zqS (fun _ => ?_) (fun _ => ?_) | refine zwS (fun _ => ?_) (fun _ => ?_))
    exact fun w' hw => ⟨rfl, hw.below⟩
end Scp
end Go.Proofs.YtlokhemlpmalaaaDoor
