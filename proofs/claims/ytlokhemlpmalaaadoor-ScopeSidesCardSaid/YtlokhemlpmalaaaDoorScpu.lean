/- Contract of the document's answer for layer 6: Text; conditions: values of at most 100,000 bytes, lists of at most 100,000. -/
import Derived.Test.YtlokhemlpmalaaaDoorScpt
namespace Go.Proofs.YtlokhemlpmalaaaDoor
namespace Scp
open Go Go.RowKit Sx Lab
attribute [local irreducible] Go.Calls

theorem right_len {l : Nm} (h : rightB l = true) : l.length ≤ 24 := by
  unfold rightB at h
  simp only [Bool.and_eq_true, decide_eq_true_eq] at h
  omega
theorem join_len (c : UInt8) (B : Nat) : ∀ {xs : List Nm}, (∀ x ∈ xs, x.length ≤ B) → (joinC c xs).length ≤ xs.length * (B + 1)
  | [], _ => by simp [joinC]
  | [x], h => by
    have := h x List.mem_cons_self
    simp only [joinC, List.length_cons, List.length_nil]
    omega
  | x :: y :: r, h => by
    have h1 := h x List.mem_cons_self
    have ih := join_len c B (xs := y :: r) fun z hz => h z (List.mem_cons_of_mem x hz)
    simp only [joinC, List.length_append, List.length_cons] at ih ⊢
    rw [Nat.add_mul, Nat.add_mul] at *
    omega
theorem op_len (op : Int) : (opN op).length ≤ 11 := by
  unfold opN
  repeat' split
  all_goals decide
theorem part_len (op : Int) {vs : List Nm} (h1 : ∀ v ∈ vs, v.length ≤ 24) (h2 : vs.length ≤ 8) : (partT (op, vs)).length ≤ 212 := by
  have := op_len op
  have h3 := join_len 44 24 h1
  unfold partT
  rw [List.length_append]
  split
  · simp only [List.length_nil]; omega
  · simp only [List.length_cons]; omega
/-- What a term that may be has for values. -/
theorem term_vals {op : Int} {vs : List Nm} (h : termB (op, vs) = true) : vs.length ≤ 8 ∧ ∀ v ∈ vs, rightB v = true := by
  unfold termB at h
  rw [Bool.and_eq_true] at h
  have h2 := h.2
  split at h2
  · have h0 : vs = [] := List.eq_nil_of_length_eq_zero (by simpa using h2)
    subst h0
    exact ⟨by simp, fun v hv => by cases hv⟩
  · exact ⟨(vals_len h2).2, fun v hv => vals_right h2 hv⟩
theorem right_all {ts : List Trm} (h : rightS ts = true) : ts.length ≤ 8 ∧ ∀ t ∈ ts, termB t = true := by
  unfold rightS at h
  rw [Bool.and_eq_true, List.all_eq_true, decide_eq_true_eq] at h
  exact ⟨h.2, h.1⟩

set_option maxHeartbeats 16000000 in
theorem rtext_ok (v : Value) (ps : List (Value × Trm)) (hwf : wfP ps) (w : World) (hv : ScpAt w v ps) : Calls Tryd.prog 16 #[v] w fun e w' => e = .returned (S (textS (trms ps))) ∧ Below w.heap.size w w' := by
  have hln := hwf.1
  have hrg := fun w' (hb : Below w.heap.size w w') => rright_ok v ps hwf w' (hv.below hb)
  have l1 : (trms ps).length = ps.length := List.length_map _
  obtain ⟨a, cp, rfl, hat⟩ := OldRow.cells cellsT_len hv.1
  refine calls1 (args := [.slice a ps.length cp]) Tryd.func16 rfl rfl rfl rfl ?_
  cases hr : rightS (trms ps)
  · rw [show textS (trms ps) = [] by unfold textS; rw [hr]; rfl]
    rw [hr] at hrg
    repeat' (first | refine aw_seq ?_ | refine zz ?_ | refine zon fun _ => ?_ | refine zoa fun vr lr hr => ?_ | ((first | apply ao_call | apply aq_call); exact wants_a; (first | exact oc_func rfl | exact oc_clos rfl rfl); (exact rfl); (first | exact fun w hw => hrg w hw.below)) | refine zoS (fun _ => ?_) (fun _ => ?_) | refine zqS (fun _ => ?_) (fun _ => ?_) | refine zwS (fun _ => ?_) (fun _ => ?_))
    exact fun w' hw => ⟨rfl, hw.below⟩
  rw [hr] at hrg
  obtain ⟨hl8, hall⟩ := right_all hr
  by_cases h0 : ps.length = 0
  · obtain rfl : ps = [] := List.eq_nil_of_length_eq_zero h0
    rw [show textS (trms []) = [97, 108, 108] from rfl]
    repeat' (first | refine aw_seq ?_ | refine zz ?_ | refine zon fun _ => ?_ | refine zoa fun vr lr hr => ?_ | ((first | apply ao_call | apply aq_call); exact wants_a; (first | exact oc_func rfl | exact oc_clos rfl rfl); (exact rfl); (first | exact fun w hw => hrg w hw.below)) | refine zoS (fun _ => ?_) (fun _ => ?_) | refine zqS (fun _ => ?_) (fun _ => ?_) | refine zwS (fun _ => ?_) (fun _ => ?_))
    exact fun w' hw => ⟨rfl, hw.below⟩
  rw [show textS (trms ps) = joinC 59 ((trms ps).map partT) by
    unfold textS
    rw [hr, if_pos rfl, if_neg fun h => h0 (by rw [← l1, h]; rfl)]]
  repeat' (first | refine aw_seq ?_ | refine zz ?_ | refine zon fun _ => ?_ | refine zoa fun vr lr hr => ?_ | ((first | apply ao_call | apply aq_call); exact wants_a; (first | exact oc_func rfl | exact oc_clos rfl rfl); (exact rfl); (first | exact fun w hw => hrg w hw.below)) | refine zoS (fun _ => ?_) (fun _ => ?_) | refine zqS (fun _ => ?_) (fun _ => ?_) | refine zwS (fun _ => ?_) (fun _ => ?_))
  refine aw_for (t0 := [(0, .slice a ps.length cp), (4, S []), (5, I (0 : Nat))]) (fun q t H => ∃ (i : Nat), q = ps.length - i ∧ i ≤ ps.length ∧ t = [(0, .slice a ps.length cp), (4, S (joinC 59 (((trms ps).take i).map partT))), (5, I i)] ∧ H = []) ⟨0, rfl, by omega, rfl, rfl⟩ (by repeat (first | exact sub_nil | refine sub_cons rfl ?_)) ?_
  rintro q t H ⟨i, rfl, hi, rfl, rfl⟩
  by_cases hlt : i < ps.length
  · obtain ⟨⟨x, op, vs⟩, he⟩ := getI hlt
    obtain ⟨g, o, rfl, hg, hc⟩ := hat i _ (i : Int) he rfl
    have c0 : w.cell? ⟨g, o + (i : Int).toNat * 2 + 0, none⟩ = some (I op) := hc 0 _ rfl
    have m1 := List.mem_of_getElem? he
    have t1 := trm_at he
    have htx := hv.2 _ m1
    obtain ⟨b, cb, hx, hbt⟩ := OldRow.cells cellsS_len htx
    simp only at hx
    subst hx
    have c1 : w.cell? ⟨g, o + (i : Int).toNat * 2 + 1, none⟩ = some (.slice b vs.length cb) := hc 1 _ rfl
    obtain ⟨v8, v24⟩ := term_vals (hall _ (List.mem_of_getElem? t1))
    have hnext : (joinC 59 (((trms ps).take (i + 1)).map partT)) = (if i = 0 then [] else joinC 59 (((trms ps).take i).map partT) ++ [59]) ++ partT (op, vs) := by
      rw [List.take_add_one, t1, List.map_append]
      show joinC 59 (_ ++ [partT (op, vs)]) = _
      rw [join_snoc]
      by_cases hi0 : i = 0
      · subst hi0; simp
      · rw [if_neg hi0, if_neg (by
          intro h
          have := congrArg List.length h
          rw [List.length_map, List.length_take] at this
          simp only [List.length_nil] at this
          omega)]
        simp
    have hpl : (joinC 59 (((trms ps).take i).map partT)).length ≤ 8 * 213 := by
      have := join_len 59 212 (xs := ((trms ps).take i).map partT) fun y hy => by
        obtain ⟨t, ht, rfl⟩ := List.mem_map.1 hy
        obtain ⟨q1, q2⟩ := term_vals (hall t (List.mem_of_mem_take ht))
        exact part_len t.1 (fun v hv => right_len (q2 v hv)) q1
      rw [List.length_map, List.length_take] at this
      have h8 : min i (trms ps).length ≤ 8 := by omega
      have := Nat.mul_le_mul_right (212 + 1) h8
      omega
    have hb0 : i = 0 → joinC 59 (((trms ps).take i).map partT) = [] := fun h => by subst h; rfl
    generalize joinC 59 (((trms ps).take i).map partT) = base at hnext hpl hb0
    obtain ⟨pre, hpre⟩ : ∃ pre, pre = (if i = 0 then [] else base ++ [59]) := ⟨_, rfl⟩
    rw [← hpre] at hnext
    have hprel : pre.length ≤ 8 * 213 + 1 := by rw [hpre]; split <;> simp <;> omega
    have hnm := fun w => name_ok op w
    have hon := op_len op
    repeat' (first | refine aw_cutI_at (id := 12) (fun t H => t = [(0, .slice (some ⟨g, o, none⟩) ps.length cp), (4, S pre), (5, I i)] ∧ H = []) ?_ ?_ | refine aw_cutI_at2 (id := 12) (fun t H => t = [(0, .slice (some ⟨g, o, none⟩) ps.length cp), (4, S pre), (5, I i)] ∧ H = []) ?_ ?_ | refine aw_seq ?_ | refine zz ?_ | refine zon fun _ => ?_ | refine zoa fun vr lr hr => ?_ | ((first | apply ao_call | apply aq_call); exact wants_a; (first | exact oc_func rfl | exact oc_clos rfl rfl); (exact rfl); (first | exact fun w hw => hnm w)) | refine zoS (fun _ => ?_) (fun _ => ?_) | refine zqS (fun _ => ?_) (fun _ => ?_) | refine zwS (fun _ => ?_) (fun _ => ?_))
    · exact ci_normal ⟨rfl, rfl⟩ (sub_cons rfl (sub_cons' rfl (by rw [hpre, if_neg (by have := of_decide_eq_true ‹decide (0 < (i : Int)) = true›; omega)]) (by repeat (first | exact sub_nil | refine sub_cons rfl ?_)))) hsub_a
    · exact ci_normal ⟨rfl, rfl⟩ (sub_cons rfl (sub_cons' rfl (by have := of_decide_eq_false ‹decide (0 < (i : Int)) = false›; rw [hpre, if_pos (by omega), hb0 (by omega)]) (by repeat (first | exact sub_nil | refine sub_cons rfl ?_)))) hsub_a
    rintro t H ⟨rfl, rfl⟩
    repeat' (first | refine aw_seq ?_ | refine zz ?_ | refine zon fun _ => ?_ | refine zoa fun vr lr hr => ?_ | ((first | apply ao_call | apply aq_call); exact wants_a; (first | exact oc_func rfl | exact oc_clos rfl rfl); (exact rfl); (first | exact fun w hw => hnm w)) | refine zoS (fun _ => ?_) (fun _ => ?_) | refine zqS (fun _ => ?_) (fun _ => ?_) | refine zwS (fun _ => ?_) (fun _ => ?_))
    refine aw_for (t0 := [(0, .slice (some ⟨g, o, none⟩) ps.length cp), (4, S (pre ++ opN op)), (5, I i), (6, I (0 : Nat))]) (fun q t H => ∃ (k : Nat) (out : Nm), q = vs.length - k ∧ k ≤ vs.length ∧ out = pre ++ partT (op, vs.take k) ∧ t = [(0, .slice (some ⟨g, o, none⟩) ps.length cp), (4, S out), (5, I i), (6, I k)] ∧ H = []) ⟨0, pre ++ opN op, rfl, by omega, by simp [partT], rfl, rfl⟩ (by repeat (first | exact sub_nil | refine sub_cons rfl ?_)) ?_
    rintro q t H ⟨k, out, rfl, hk, hout, rfl, rfl⟩
    have hol : out.length ≤ 8 * 213 + 1 + 212 := by
      have := part_len op (vs := vs.take k) (fun v hv => right_len (v24 v (List.mem_of_mem_take hv))) (by rw [List.length_take]; omega)
      rw [hout, List.length_append]
      omega
    by_cases hkl : k < vs.length
    · obtain ⟨v, hv2⟩ := getI hkl
      obtain ⟨g2, o2, rfl, hg2, hc2⟩ := hbt k v (k : Int) hv2 rfl
      have d0 : w.cell? ⟨g2, o2 + (k : Int).toNat * 1, none⟩ = some (S v) := hc2 0 _ rfl
      have hvl := right_len (v24 v (List.mem_of_getElem? hv2))
      have hsn : partT (op, vs.take (k + 1)) = if vs.take k = [] then opN op ++ [58] ++ v else partT (op, vs.take k) ++ [44] ++ v := by
        rw [List.take_add_one, hv2]
        exact part_snoc op (vs.take k) v
      by_cases hk0 : k = 0
      · rw [if_pos (by rw [hk0]; rfl)] at hsn
        have ho2 : out = pre ++ opN op := by rw [hout, hk0]; simp [partT]
        have hke : ((k : Int) == 0) = true := beq_iff_eq.2 (by omega)
        repeat' (first | refine aw_seq ?_ | refine zz ?_ | refine zon fun _ => ?_ | refine zoa fun vr lr hr => ?_ | refine zoS (fun _ => ?_) (fun _ => ?_) | refine zqS (fun _ => ?_) (fun _ => ?_) | refine zwS (fun _ => ?_) (fun _ => ?_))
        exact lq_normal' ⟨k + 1, out ++ [58] ++ v, rfl, by omega, by rw [hsn, ho2]; simp, rfl, rfl⟩ (by omega) (by repeat (first | exact sub_nil | refine sub_cons rfl ?_)) hsub_a
      · rw [if_neg (by
          intro h
          have := congrArg List.length h
          rw [List.length_take] at this
          simp only [List.length_nil] at this
          omega)] at hsn
        have hke : ((k : Int) == 0) = false := beq_eq_false_iff_ne.2 (by omega)
        repeat' (first | refine aw_seq ?_ | refine zz ?_ | refine zon fun _ => ?_ | refine zoa fun vr lr hr => ?_ | refine zoS (fun _ => ?_) (fun _ => ?_) | refine zqS (fun _ => ?_) (fun _ => ?_) | refine zwS (fun _ => ?_) (fun _ => ?_))
        exact lq_normal' ⟨k + 1, out ++ [44] ++ v, rfl, by omega, by rw [hsn, hout]; simp, rfl, rfl⟩ (by omega) (by repeat (first | exact sub_nil | refine sub_cons rfl ?_)) hsub_a
    · obtain rfl : k = vs.length := by omega
      rw [List.take_length] at hout
      repeat' (first | refine aw_seq ?_ | refine zz ?_ | refine zon fun _ => ?_ | refine zoa fun vr lr hr => ?_ | refine zoS (fun _ => ?_) (fun _ => ?_) | refine zqS (fun _ => ?_) (fun _ => ?_) | refine zwS (fun _ => ?_) (fun _ => ?_))
      exact lq_normal' ⟨i + 1, rfl, by omega, rfl, rfl⟩ (by omega) (sub_cons rfl (sub_cons' rfl (by rw [hnext, hout]) (by repeat (first | exact sub_nil | refine sub_cons rfl ?_)))) hsub_a
  · obtain rfl : i = ps.length := by omega
    rw [← l1, List.take_length]
    repeat' (first | refine aw_seq ?_ | refine zz ?_ | refine zon fun _ => ?_ | refine zoa fun vr lr hr => ?_ | refine zoS (fun _ => ?_) (fun _ => ?_) | refine zqS (fun _ => ?_) (fun _ => ?_) | refine zwS (fun _ => ?_) (fun _ => ?_))
    exact fun w' hw => ⟨rfl, hw.below⟩
end Scp
end Go.Proofs.YtlokhemlpmalaaaDoor
