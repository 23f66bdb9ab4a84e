/- The document's answer for layer 11: Path, Children, All, Below; conditions: at most 1,000 nodes. -/
import Derived.Test.YtonhfddklkbnbaaTrm
namespace Go.Proofs.Ytonhfddklkbnbaa
namespace Trt
open Go Go.RowKit Sx
attribute [local irreducible] Go.Calls

set_option maxHeartbeats 8000000 in
/-- A path that ends ahead of the k-th node. -/
theorem rpath_ok {w : World} {g : Nat} {t : Tr} {v : Value} (h : TAt w g t v) (hl : t.length ≤ 1000) (k : Nat) (hk : k ≤ 1000) (s : Nm) (he : (pathN t k s).length < k) :
    Calls Try.prog 37 #[.pointer (some ⟨g, 0, none⟩), S s] w fun e w' => ∃ r, e = .returned r ∧ NewRow 9 1 w w' r (pathN t k s).length ((pathN t k s).flatMap cells1) := by
  have hh := fun w' (hb : Below w.heap.size w w') s => rhas_ok (h.below hb) hl s
  have hp := fun w' (hb : Below w.heap.size w w') s => rpar_ok (h.below hb) hl s
  refine calls1 (args := [.pointer (some ⟨g, 0, none⟩), S s]) Try.func37 rfl rfl rfl rfl ?_
  repeat' (first | refine aw_seq ?_ | ((first | apply ao_val | apply aq_val); exact wants_a; (first | exact ov_nilcheck rfl | exact ov_a); (exact rfl)) | refine zy ?_ | refine zon fun _ => ?_ | refine zoa fun vr lr hr => ?_ | refine zoS (fun _ => ?_) (fun _ => ?_) | refine zqS (fun _ => ?_) (fun _ => ?_) | refine zwS (fun _ => ?_) (fun _ => ?_))
  refine aw_for (t0 := [(0, .pointer (some ⟨g, 0, none⟩)), (5, .slice none 0 0), (6, S s)]) (fun q tm H => ∃ (out : List Nm) (u : Nm) (v5 : Value) (l5 : Hp), (pathN t q u).length < q ∧ out ++ pathN t q u = pathN t k s ∧ out.length + q = k ∧ RowB 9 1 v5 l5 out.length (out.flatMap cells1) ∧ tm = [(0, .pointer (some ⟨g, 0, none⟩)), (5, v5), (6, S u)] ∧ H = l5 ++ [])
    ⟨[], s, _, [], he, rfl, Nat.zero_add _, RowB.nil, rfl, rfl⟩ (by repeat (first | exact sub_nil | refine sub_cons rfl ?_)) ?_
  rintro q tm H ⟨out, u, v5, l5, hq, hout, hlen, r5, rfl, rfl⟩
  obtain ⟨a5, c5, hv5⟩ := r5.len
  subst hv5
  obtain ⟨m, rfl⟩ : ∃ m, q = m + 1 := ⟨q - 1, by omega⟩
  have hhu := fun w' hw => hh w' hw u
  have hpu := fun w' hw => hp w' hw u
  rw [pathN] at hq hout
  cases hx : hasT t u
  · rw [if_neg (by rw [hx]; decide), List.append_nil] at hout
    rw [hx] at hhu
    rw [← hout]
    repeat' (first | refine aw_seq ?_ | ((first | apply ao_val | apply aq_val); exact wants_a; (first | exact ov_nilcheck rfl | exact ov_a); (exact rfl)) | refine zy ?_ | refine zon fun _ => ?_ | refine zoa fun vr lr hr => ?_ | ((first | apply ao_call | apply aq_call); exact wants_a; (first | exact oc_func rfl | exact oc_clos rfl rfl | exact oc_bnd rfl rfl); (exact rfl); (first | exact fun w hw => hhu w hw.below)) | refine zoS (fun _ => ?_) (fun _ => ?_) | refine zqS (fun _ => ?_) (fun _ => ?_) | refine zwS (fun _ => ?_) (fun _ => ?_))
    exact fun w' hw => ⟨_, rfl, hw.below, _, r5, fun b o hm => hw.at_ b o (List.mem_append_left _ hm)⟩
  · rw [if_pos hx] at hq hout
    rw [hx] at hhu
    repeat' (first | refine aw_seq ?_ | ((first | apply ao_val | apply aq_val); exact wants_a; (first | exact ov_nilcheck rfl | exact ov_a); (exact rfl)) | refine zy ?_ | refine zon fun _ => ?_ | refine zoa fun vr lr hr => ?_ | ((first | apply ao_call | apply aq_call); exact wants_a; (first | exact oc_func rfl | exact oc_clos rfl rfl | exact oc_bnd rfl rfl); (exact rfl); (first | exact fun w hw => hhu w hw.below | exact fun w hw => hpu w hw.below)) | refine zoS (fun _ => ?_) (fun _ => ?_) | refine zqS (fun _ => ?_) (fun _ => ?_) | refine zwS (fun _ => ?_) (fun _ => ?_))
    exact lq_normal' ⟨out ++ [u], parT t u, _, _, by rw [List.length_cons] at hq; omega, by rw [List.append_assoc]; exact hout, by rw [List.length_append, List.length_singleton]; omega, row1 hr, rfl, rfl⟩ (Nat.lt_succ_self m) (by repeat (first | exact sub_nil | refine sub_cons rfl ?_)) hsub_a
def chN (t : Tr) (s : Nm) (i : Nat) : List Nm := childT (t.take i) s
theorem chN_s {t : Tr} {s : Nm} {i : Nat} {e : Nm × Nm} (he : t[i]? = some e) : chN t s (i + 1) = chN t s i ++ (if e.2 = s ∧ e.1 ≠ rootN then [e.1] else []) := by
  unfold chN childT
  rw [List.take_add_one, he, List.filter_append, List.map_append]
  congr 1
  by_cases h : e.2 = s ∧ e.1 ≠ rootN
  · rw [if_pos h]; simp [h.1, h.2]
  · rw [if_neg h]
    have : (decide (e.2 = s) && decide (e.1 ≠ rootN)) = false := by
      rw [← Bool.not_eq_true, Bool.and_eq_true, decide_eq_true_eq, decide_eq_true_eq]
      exact h
    show (List.filter (fun e : Nm × Nm => decide (e.2 = s) && decide (e.1 ≠ rootN)) [e]).map (·.1) = []
    rw [List.filter_cons, if_neg (by rw [this]; decide)]
    rfl
theorem chN_len (t : Tr) (s : Nm) (i : Nat) : (chN t s i).length ≤ i := by
  unfold chN childT
  rw [List.length_map]
  have := List.length_filter_le (fun e : Nm × Nm => decide (e.2 = s) && decide (e.1 ≠ rootN)) (t.take i)
  rw [List.length_take] at this
  omega
set_option maxHeartbeats 8000000 in
theorem rchild_ok {w : World} {g : Nat} {t : Tr} {v : Value} (h : TAt w g t v) (hl : t.length ≤ 1000) (s : Nm) :
    Calls Try.prog 50 #[.pointer (some ⟨g, 0, none⟩), S s] w fun e w' => ∃ r, e = .returned r ∧ NewRow 9 1 w w' r (childT t s).length ((childT t s).flatMap cells1) := by
  obtain ⟨lt, c0, hv⟩ := h
  obtain ⟨a, cp, rfl, hat⟩ := OldRow.cells cells2_len hv
  refine calls1 (args := [.pointer (some ⟨g, 0, none⟩), S s]) Try.func50 rfl rfl rfl rfl ?_
  repeat' (first | refine aw_seq ?_ | ((first | apply ao_val | apply aq_val); exact wants_a; (first | exact ov_nilcheck rfl | exact ov_a); (exact rfl)) | refine zy ?_ | refine zon fun _ => ?_ | refine zoa fun vr lr hr => ?_ | refine zoS (fun _ => ?_) (fun _ => ?_) | refine zqS (fun _ => ?_) (fun _ => ?_) | refine zwS (fun _ => ?_) (fun _ => ?_))
  refine aw_for (t0 := [(0, .pointer (some ⟨g, 0, none⟩)), (1, S s), (5, .slice none 0 0), (6, I (0 : Nat))]) (fun q tm H => ∃ (i : Nat) (v5 : Value) (l5 : Hp), q = t.length - i ∧ i ≤ t.length ∧ RowB 9 1 v5 l5 (chN t s i).length ((chN t s i).flatMap cells1) ∧ tm = [(0, .pointer (some ⟨g, 0, none⟩)), (1, S s), (5, v5), (6, I i)] ∧ H = l5 ++ [])
    ⟨0, _, [], rfl, by omega, RowB.nil, rfl, rfl⟩ (by repeat (first | exact sub_nil | refine sub_cons rfl ?_)) ?_
  rintro q tm H ⟨i, v5, l5, rfl, hi, r5, rfl, rfl⟩
  obtain ⟨a5, c5, hv5⟩ := r5.len
  subst hv5
  have hln := chN_len t s i
  by_cases hlt : i < t.length
  · obtain ⟨⟨n, p⟩, he⟩ := getP hlt
    obtain ⟨g1, o1, rfl, hg, hc⟩ := hat i _ (i : Int) he rfl
    have cN : w.cell? ⟨g1, o1 + (i : Int).toNat * 2 + 0, none⟩ = some (S n) := hc 0 _ rfl
    have cP : w.cell? ⟨g1, o1 + (i : Int).toNat * 2 + 1, none⟩ = some (S p) := hc 1 _ rfl
    have hnx := chN_s (s := s) he
    simp only at hnx
    by_cases hk : p = s
    · have ek : (p == s) = true := beq_iff_eq.2 hk
      by_cases hr : n = rootN
      · rw [if_neg fun h => h.2 hr, List.append_nil] at hnx
        subst hr
        repeat' (first | refine aw_seq ?_ | ((first | apply ao_val | apply aq_val); exact wants_a; (first | exact ov_nilcheck rfl | exact ov_a); (exact rfl)) | refine zy ?_ | refine zon fun _ => ?_ | refine zoa fun vr lr hr => ?_ | refine zoS (fun _ => ?_) (fun _ => ?_) | refine zqS (fun _ => ?_) (fun _ => ?_) | refine zwS (fun _ => ?_) (fun _ => ?_))
        exact lq_normal' ⟨i + 1, _, _, rfl, by omega, by rw [hnx]; exact r5, rfl, rfl⟩ (by omega) (by repeat (first | exact sub_nil | refine sub_cons rfl ?_)) hsub_a
      · rw [if_pos ⟨hk, hr⟩] at hnx
        have er : (!(n == rootN)) = true := by rw [beq_eq_false_iff_ne.2 hr]; rfl
        repeat' (first | refine aw_seq ?_ | ((first | apply ao_val | apply aq_val); exact wants_a; (first | exact ov_nilcheck rfl | exact ov_a); (exact rfl)) | refine zy ?_ | refine zon fun _ => ?_ | refine zoa fun vr lr hr => ?_ | refine zoS (fun _ => ?_) (fun _ => ?_) | refine zqS (fun _ => ?_) (fun _ => ?_) | refine zwS (fun _ => ?_) (fun _ => ?_))
        exact lq_normal' ⟨i + 1, _, _, rfl, by omega, by rw [hnx]; exact row1 hr, rfl, rfl⟩ (by omega) (by repeat (first | exact sub_nil | refine sub_cons rfl ?_)) hsub_a
    · have ek : (p == s) = false := beq_eq_false_iff_ne.2 hk
      rw [if_neg fun h => hk h.1, List.append_nil] at hnx
      repeat' (first | refine aw_seq ?_ | ((first | apply ao_val | apply aq_val); exact wants_a; (first | exact ov_nilcheck rfl | exact ov_a); (exact rfl)) | refine zy ?_ | refine zon fun _ => ?_ | refine zoa fun vr lr hr => ?_ | refine zoS (fun _ => ?_) (fun _ => ?_) | refine zqS (fun _ => ?_) (fun _ => ?_) | refine zwS (fun _ => ?_) (fun _ => ?_))
      exact lq_normal' ⟨i + 1, _, _, rfl, by omega, by rw [hnx]; exact r5, rfl, rfl⟩ (by omega) (by repeat (first | exact sub_nil | refine sub_cons rfl ?_)) hsub_a
  · obtain rfl : i = t.length := by omega
    have hall : chN t s t.length = childT t s := by unfold chN; rw [List.take_length]
    rw [hall] at r5
    repeat' (first | refine aw_seq ?_ | ((first | apply ao_val | apply aq_val); exact wants_a; (first | exact ov_nilcheck rfl | exact ov_a); (exact rfl)) | refine zy ?_ | refine zon fun _ => ?_ | refine zoa fun vr lr hr => ?_ | refine zoS (fun _ => ?_) (fun _ => ?_) | refine zqS (fun _ => ?_) (fun _ => ?_) | refine zwS (fun _ => ?_) (fun _ => ?_))
    exact fun w' hw => ⟨_, rfl, hw.below, _, by rw [← hall]; rw [← hall] at r5; exact r5, fun b o hm => hw.at_ b o (List.mem_append_left _ hm)⟩
end Trt
end Go.Proofs.Ytonhfddklkbnbaa
