/- The document's answer for layer 11: Below, Texts; conditions: at most 1,000 nodes, no path longer than eight. -/
import Derived.Test.YtoeidecnfkogdaaTrn
namespace Go.Proofs.Ytoeidecnfkogdaa
namespace Trt
open Go Go.RowKit Sx
attribute [local irreducible] Go.Calls

def blN (t : Tr) (s : Nm) (i : Nat) : List Nm := ((t.take i).filter fun e => decide (s ∈ pathT t e.1)).map (·.1)
theorem blN_s {t : Tr} {s : Nm} {i : Nat} {e : Nm × Nm} (he : t[i]? = some e) : blN t s (i + 1) = blN t s i ++ (if s ∈ pathT t e.1 then [e.1] else []) := by
  unfold blN
  rw [List.take_add_one, he, List.filter_append, List.map_append]
  congr 1
  show (List.filter _ [e]).map (·.1) = _
  by_cases h : s ∈ pathT t e.1
  · rw [if_pos h, List.filter_cons, if_pos (decide_eq_true h)]; rfl
  · rw [if_neg h, List.filter_cons, if_neg (by rw [decide_eq_false h]; decide)]; rfl
theorem blN_len (t : Tr) (s : Nm) (i : Nat) : (blN t s i).length ≤ i := by
  unfold blN
  rw [List.length_map]
  have := List.length_filter_le (fun e : Nm × Nm => decide (s ∈ pathT t e.1)) (t.take i)
  rw [List.length_take] at this
  omega
theorem blN_all (t : Tr) (s : Nm) : blN t s t.length = belowT t s := by unfold blN belowT; rw [List.take_length]
set_option maxHeartbeats 16000000 in
theorem rbelow_ok {w : World} {g : Nat} {t : Tr} {v : Value} (h : TAt w g t v) (hl : t.length ≤ 1000) (hd : ∀ e ∈ t, (pathT t e.1).length ≤ 8) (s : Nm) :
    Calls Try.prog 20 #[.pointer (some ⟨g, 0, none⟩), S s] w fun e w' => ∃ r, e = .returned r ∧ NewRow 9 1 w w' r (belowT t s).length ((belowT t s).flatMap cells1) := by
  have hpa := fun w' (hb : Below w.heap.size w w') k (hk : (pathT t k).length ≤ 8) => rpath_ok (h.below hb) hl 9 (by omega) k (by unfold pathT at hk; omega)
  obtain ⟨lt, c0, hv⟩ := h
  obtain ⟨a, cp, rfl, hat⟩ := OldRow.cells cells2_len hv
  refine calls1 (args := [.pointer (some ⟨g, 0, none⟩), S s]) Try.func20 rfl rfl rfl rfl ?_
  repeat' (first | refine aw_seq ?_ | ((first | apply ao_val | apply aq_val); exact wants_a; (first | exact ov_nilcheck rfl | exact ov_a); (exact rfl)) | refine zy ?_ | refine zon fun _ => ?_ | refine zoa fun vr lr hr => ?_ | refine zoS (fun _ => ?_) (fun _ => ?_) | refine zqS (fun _ => ?_) (fun _ => ?_) | refine zwS (fun _ => ?_) (fun _ => ?_))
  refine aw_for (t0 := [(0, .pointer (some ⟨g, 0, none⟩)), (1, S s), (5, .slice none 0 0), (6, I (0 : Nat))]) (fun q tm H => ∃ (i : Nat) (v5 : Value) (l5 : Hp), q = t.length - i ∧ i ≤ t.length ∧ RowB 9 1 v5 l5 (blN t s i).length ((blN t s i).flatMap cells1) ∧ tm = [(0, .pointer (some ⟨g, 0, none⟩)), (1, S s), (5, v5), (6, I i)] ∧ H = l5 ++ [])
    ⟨0, _, [], rfl, by omega, RowB.nil, rfl, rfl⟩ (by repeat (first | exact sub_nil | refine sub_cons rfl ?_)) ?_
  rintro q tm H ⟨i, v5, l5, rfl, hi, r5, rfl, rfl⟩
  obtain ⟨a5, c5, hv5⟩ := r5.len
  subst hv5
  have hln := blN_len t s i
  by_cases hlt : i < t.length
  · obtain ⟨⟨n, p⟩, he⟩ := getP hlt
    obtain ⟨g1, o1, rfl, hg, hc⟩ := hat i _ (i : Int) he rfl
    have cN : w.cell? ⟨g1, o1 + (i : Int).toNat * 2 + 0, none⟩ = some (S n) := hc 0 _ rfl
    have hnx := blN_s (s := s) he
    simp only at hnx
    have hpl := hd _ (List.mem_of_getElem? he)
    simp only at hpl
    have hpn := fun w' hw => hpa w' hw n hpl
    obtain ⟨L, hL⟩ : ∃ L, pathT t n = L := ⟨_, rfl⟩
    rw [show pathN t 9 n = L from hL] at hpn
    rw [hL] at hnx hpl
    by_cases hk : s ∈ L
    · rw [if_pos hk] at hnx
      have hin := fun v w' (hv : OldRow w' 1 v L.length (L.flatMap cells1)) => rin_ok L (by omega) s v w' hv
      rw [decide_eq_true hk] at hin
      repeat' (first | refine aw_seq ?_ | ((first | apply ao_val | apply aq_val); exact wants_a; (first | exact ov_nilcheck rfl | exact ov_a); (exact rfl)) | refine zy ?_ | refine zon fun _ => ?_ | refine zoa fun vr lr hr => ?_ | ((first | apply ao_call | apply aq_call); exact wants_a; (first | exact oc_func rfl | exact oc_clos rfl rfl | exact oc_bnd rfl rfl); (exact rfl); (first | exact fun w hw => hin _ w (hw.oldr hr cut_a))) | (apply ao_callr; exact wants_a; (exact oc_func rfl); (exact rfl); (first | exact fun w hw => hpn w hw.below); intro vr lr hr) | refine zoS (fun _ => ?_) (fun _ => ?_) | refine zqS (fun _ => ?_) (fun _ => ?_) | refine zwS (fun _ => ?_) (fun _ => ?_))
      exact lq_normal' ⟨i + 1, _, _, rfl, by omega, by rw [hnx]; exact row1 (by assumption), rfl, rfl⟩ (by omega) (by repeat (first | exact sub_nil | refine sub_cons rfl ?_)) hsub_a
    · rw [if_neg hk, List.append_nil] at hnx
      have hin := fun v w' (hv : OldRow w' 1 v L.length (L.flatMap cells1)) => rin_ok L (by omega) s v w' hv
      rw [decide_eq_false hk] at hin
      repeat' (first | refine aw_seq ?_ | ((first | apply ao_val | apply aq_val); exact wants_a; (first | exact ov_nilcheck rfl | exact ov_a); (exact rfl)) | refine zy ?_ | refine zon fun _ => ?_ | refine zoa fun vr lr hr => ?_ | ((first | apply ao_call | apply aq_call); exact wants_a; (first | exact oc_func rfl | exact oc_clos rfl rfl | exact oc_bnd rfl rfl); (exact rfl); (first | exact fun w hw => hin _ w (hw.oldr hr cut_a))) | (apply ao_callr; exact wants_a; (exact oc_func rfl); (exact rfl); (first | exact fun w hw => hpn w hw.below); intro vr lr hr) | refine zoS (fun _ => ?_) (fun _ => ?_) | refine zqS (fun _ => ?_) (fun _ => ?_) | refine zwS (fun _ => ?_) (fun _ => ?_))
      exact lq_normal' ⟨i + 1, _, _, rfl, by omega, by rw [hnx]; exact r5, rfl, rfl⟩ (by omega) (by repeat (first | exact sub_nil | refine sub_cons rfl ?_)) hsub_a
  · obtain rfl : i = t.length := by omega
    rw [blN_all] at r5
    repeat' (first | refine aw_seq ?_ | ((first | apply ao_val | apply aq_val); exact wants_a; (first | exact ov_nilcheck rfl | exact ov_a); (exact rfl)) | refine zy ?_ | refine zon fun _ => ?_ | refine zoa fun vr lr hr => ?_ | refine zoS (fun _ => ?_) (fun _ => ?_) | refine zqS (fun _ => ?_) (fun _ => ?_) | refine zwS (fun _ => ?_) (fun _ => ?_))
    exact fun w' hw => ⟨_, rfl, hw.below, _, by rw [← blN_all]; rw [← blN_all] at r5; exact r5, fun b o hm => hw.at_ b o (List.mem_append_left _ hm)⟩
end Trt
end Go.Proofs.Ytoeidecnfkogdaa
