/- Contract of the document's answer for layer 6: split; conditions: a text of at most 100,000 bytes. -/
import Derived.Test.YtlokhemlpmalaaaDoorScpt
namespace Go.Proofs.YtlokhemlpmalaaaDoor
namespace Scp
open Go Go.RowKit Sx Lab
attribute [local irreducible] Go.Calls

theorem split_step {c : UInt8} {l : Nm} {f i : Nat} (h : f ≤ i) (hi : l[i]? = some c) (hno : ∀ (j : Nat) (d : UInt8), f ≤ j → j < i → l[j]? = some d → d ≠ c) : splitL c (l.drop f) = (l.drop f).take (i - f) :: splitL c (l.drop (i + 1)) := by
  have hlt := (List.getElem?_eq_some_iff.1 hi).1
  have e1 : l.drop f = (l.drop f).take (i - f) ++ c :: l.drop (i + 1) := by
    have h1 : (l.drop f).drop (i - f) = c :: l.drop (i + 1) := by
      rw [List.drop_drop, show f + (i - f) = i by omega, List.drop_eq_getElem_cons hlt, (List.getElem?_eq_some_iff.1 hi).2]
    rw [← h1, List.take_append_drop]
  conv => lhs; rw [e1]
  refine split_at fun d hd => ?_
  obtain ⟨j, hj⟩ := List.getElem?_of_mem hd
  have hj2 := (List.getElem?_eq_some_iff.1 hj).1
  rw [List.length_take] at hj2
  rw [List.getElem?_take_of_lt (by omega), List.getElem?_drop] at hj
  exact hno (f + j) d (by omega) (by omega) hj
theorem split_end {c : UInt8} {l : Nm} {f : Nat} (hno : ∀ (j : Nat) (d : UInt8), f ≤ j → j < l.length → l[j]? = some d → d ≠ c) : splitL c (l.drop f) = [l.drop f] := split_no fun d hd => by
  obtain ⟨j, hj⟩ := List.getElem?_of_mem hd
  rw [List.getElem?_drop] at hj
  exact hno (f + j) d (by omega) (List.getElem?_eq_some_iff.1 hj).1 hj
theorem row_snoc {v : Value} {k : Hp} {outs : List Nm} {x : Nm} {e : TypeId} (h : RowB e 1 v k (outs.length + 1) (outs.flatMap cellsS ++ [S x])) : RowB e 1 v k (outs ++ [x]).length ((outs ++ [x]).flatMap cellsS) := by
  rw [List.length_append, List.flatMap_append]
  exact h

set_option maxHeartbeats 16000000 in
theorem rsplit_ok (l : Nm) (c : UInt8) (hl : l.length ≤ 100000) (w : World) :
    Calls Tryd.prog 32 #[S l, .int .u8 (c.toNat : Int)] w fun e w' => ∃ r, e = .returned r ∧ NewRow 9 1 w w' r (splitL c l).length ((splitL c l).flatMap cellsS) := by
  refine calls1 (args := [S l, .int .u8 (c.toNat : Int)]) Tryd.func32 rfl rfl rfl rfl ?_
  repeat' (first | refine aw_seq ?_ | refine zz ?_ | refine zon fun _ => ?_ | refine zoa fun vr lr hr => ?_ | refine zoS (fun _ => ?_) (fun _ => ?_) | refine zqS (fun _ => ?_) (fun _ => ?_) | refine zwS (fun _ => ?_) (fun _ => ?_))
  refine aw_for (t0 := [(0, S l), (1, .int .u8 (c.toNat : Int)), (5, .slice none 0 0), (6, I (0 : Nat)), (7, I (0 : Nat))])
    (fun q t H => ∃ (i from_ : Nat) (v : Value) (k : Hp) (outs : List Nm), q = l.length + 1 - i ∧ i ≤ l.length + 1 ∧ RowB 9 1 v k outs.length (outs.flatMap cellsS) ∧ outs.length ≤ i ∧
      (i = l.length + 1 ∧ outs = splitL c l ∨ i ≤ l.length ∧ from_ ≤ i ∧ splitL c l = outs ++ splitL c (l.drop from_) ∧ ∀ (j : Nat) (d : UInt8), from_ ≤ j → j < i → l[j]? = some d → d ≠ c) ∧
      t = [(0, S l), (1, .int .u8 (c.toNat : Int)), (5, v), (6, I from_), (7, I i)] ∧ H = k ++ [])
    ⟨0, 0, _, [], [], rfl, by omega, RowB.nil, by simp, .inr ⟨by omega, by omega, rfl, fun j d h1 h2 => by omega⟩, rfl, rfl⟩ (by repeat (first | exact sub_nil | refine sub_cons rfl ?_)) ?_
  rintro q t H ⟨i, from_, v, k, outs, rfl, hi, hrow, hol, hst, rfl, rfl⟩
  by_cases hlt : i ≤ l.length
  · rcases hst with ⟨h, -⟩ | ⟨-, hfi, hsp, hno⟩
    · omega
    by_cases hie : i = l.length
    · have hb : ((i : Int) == (l.length : Int)) = true := beq_iff_eq.2 (by omega)
      repeat' (first | refine aw_seq ?_ | ((first | apply ao_val | apply aq_val); exact wants_a; (first | exact ov_sslice_both rfl rfl rfl rfl rfl hfi hlt | exact ov_a); (exact rfl)) | refine zy ?_ | refine zon fun _ => ?_ | refine zoa fun vr lr hr => ?_ | refine zoS (fun _ => ?_) (fun _ => ?_) | refine zqS (fun _ => ?_) (fun _ => ?_) | refine zwS (fun _ => ?_) (fun _ => ?_))
      exact lq_normal' ⟨i + 1, i + 1, _, _, outs ++ [(l.drop from_).take (i - from_)], rfl, by omega, row_snoc hr, by rw [List.length_append]; simp; omega, .inl ⟨by omega, by
        rw [hsp, split_end fun j d h1 h2 h3 => hno j d h1 (by omega) h3, List.take_of_length_le (by rw [List.length_drop]; omega)]⟩, rfl, rfl⟩ (by omega) (by repeat (first | exact sub_nil | refine sub_cons rfl ?_)) hsub_a
    · have hb : ((i : Int) == (l.length : Int)) = false := beq_eq_false_iff_ne.2 (by omega)
      obtain ⟨d, hd⟩ := getI (show i < l.length by omega)
      have hdc : ∀ x y : UInt8, ((x.toNat : Int) == (y.toNat : Int)) = decide (x = y) := fun x y => by
        rw [Bool.eq_iff_iff, beq_iff_eq, decide_eq_true_eq]
        exact ⟨fun h => UInt8.toNat_inj.1 (by omega), fun h => by rw [h]⟩
      by_cases hc : d = c
      · subst hc
        have hb2 : ((d.toNat : Int) == (d.toNat : Int)) = true := beq_self_eq_true _
        repeat' (first | refine aw_seq ?_ | ((first | apply ao_val | apply aq_val); exact wants_a; (first | exact ov_sslice_both rfl rfl rfl rfl rfl hfi hlt | exact ov_sindex rfl rfl hd rfl | exact ov_a); (exact rfl)) | refine zy ?_ | refine zon fun _ => ?_ | refine zoa fun vr lr hr => ?_ | refine zoS (fun _ => ?_) (fun _ => ?_) | refine zqS (fun _ => ?_) (fun _ => ?_) | refine zwS (fun _ => ?_) (fun _ => ?_))
        exact lq_normal' ⟨i + 1, i + 1, _, _, outs ++ [(l.drop from_).take (i - from_)], rfl, by omega, row_snoc hr, by rw [List.length_append]; simp; omega, .inr ⟨by omega, by omega, by
          rw [hsp, split_step hfi hd hno]; simp, fun j d h1 h2 => by omega⟩, rfl, rfl⟩ (by omega) (by repeat (first | exact sub_nil | refine sub_cons rfl ?_)) hsub_a
      · have hb2 : ((d.toNat : Int) == (c.toNat : Int)) = false := by rw [hdc]; exact decide_eq_false hc
        repeat' (first | refine aw_seq ?_ | ((first | apply ao_val | apply aq_val); exact wants_a; (first | exact ov_sslice_both rfl rfl rfl rfl rfl hfi hlt | exact ov_sindex rfl rfl hd rfl | exact ov_a); (exact rfl)) | refine zy ?_ | refine zon fun _ => ?_ | refine zoa fun vr lr hr => ?_ | refine zoS (fun _ => ?_) (fun _ => ?_) | refine zqS (fun _ => ?_) (fun _ => ?_) | refine zwS (fun _ => ?_) (fun _ => ?_))
        exact lq_normal' ⟨i + 1, from_, v, _, outs, rfl, by omega, hrow, by omega, .inr ⟨by omega, by omega, hsp, fun j x h1 h2 h3 => by
          by_cases hji : j = i
          · subst hji; rw [hd] at h3; cases h3; exact hc
          · exact hno j x h1 (by omega) h3⟩, rfl, rfl⟩ (by omega) (by repeat (first | exact sub_nil | refine sub_cons rfl ?_)) hsub_a
  · obtain ⟨hi2, hout⟩ : i = l.length + 1 ∧ outs = splitL c l := by
      rcases hst with h | ⟨h, -⟩
      · exact h
      · omega
    subst hout
    repeat' (first | refine aw_seq ?_ | refine zz ?_ | refine zon fun _ => ?_ | refine zoa fun vr lr hr => ?_ | refine zoS (fun _ => ?_) (fun _ => ?_) | refine zqS (fun _ => ?_) (fun _ => ?_) | refine zwS (fun _ => ?_) (fun _ => ?_))
    exact fun w' hw => ⟨_, rfl, hw.below, _, hrow, fun b o hm => hw.at_ b o (List.mem_append_left _ hm)⟩
end Scp
end Go.Proofs.YtlokhemlpmalaaaDoor
