/- The charge of an object, and the object with a list of its own; the document's answers; conditions: names of at most 100,000 bytes, at most 100,000 resources. -/
import Derived.Test.YthabchmfhfhcaaaOobj
namespace Go.Proofs.Ythabchmfhfhcaaa
namespace Ojt
open Go Go.RowKit Sx Wid Lab Vec
attribute [local irreducible] Go.Calls

abbrev nObj : Nm := [111, 98, 106, 101, 99, 116, 115]
abbrev U2 (n : Int) : Value := .int .u64 n

set_option maxHeartbeats 16000000 in
theorem rright_ok (o : Ob) (v : Value) (hwf : wfO o) (w : World) (hv : ResAt w v o.rs) : Calls Try.prog 13 #[OV o v] w fun e w' => e = .returned (.bool (rightO o)) ∧ Below w.heap.size w w' := by
  obtain ⟨k, s, n, ver, c, tm, bs, rs⟩ := o
  obtain ⟨hk, hs, hn, hcl, hwr⟩ := hwf
  have hln := hwr.1
  simp only at hk hs hn hcl hwr hln hv
  obtain ⟨a, cp, rfl, hat⟩ := OldRow.cells cellsR_len hv
  refine calls1 (args := [OC k s n ver c tm bs (.slice a rs.length cp)]) Try.func13 rfl rfl rfl rfl ?_
  repeat' (first | refine aw_cutI_at (id := 5) (fun t H => (keyB k s n = true ∧ (c == [] || rightB c) = true ∧ 1 ≤ ver ∧ rs.length ≤ 16) ∧ ∃ gb, t = [(1, .pointer (some ⟨gb, 0, none⟩))] ∧ H = [(gb, .cells #[S k, S s, S n, I ver, S c, .bool tm, .bool bs, .slice a rs.length cp] 26)]) ?_ ?_ | refine aw_cutI_at2 (id := 5) (fun t H => (keyB k s n = true ∧ (c == [] || rightB c) = true ∧ 1 ≤ ver ∧ rs.length ≤ 16) ∧ ∃ gb, t = [(1, .pointer (some ⟨gb, 0, none⟩))] ∧ H = [(gb, .cells #[S k, S s, S n, I ver, S c, .bool tm, .bool bs, .slice a rs.length cp] 26)]) ?_ ?_ | refine aw_seq ?_ | refine zz ?_ | refine zon fun _ => ?_ | refine zoa fun vr lr hr => ?_ | ((first | apply ao_call | apply aq_call); exact wants_a; (first | exact oc_func rfl | exact oc_clos rfl rfl); (exact rfl); (first | exact fun w hw => Lab.rkey_ok k s n hk hs hn w | exact fun w hw => Lab.rright_ok c (by omega) w)) | refine zoS (fun _ => ?_) (fun _ => ?_) | refine zqS (fun _ => ?_) (fun _ => ?_) | refine zwS (fun _ => ?_) (fun _ => ?_))
  all_goals first
    | (refine ret_bool ?_; clear hat hv; simp_all [rightO, resB]; done)
    | (refine ret_bool ?_; clear hat hv; simp_all [rightO, resB]; intros; omega)
    | exact ci_normal ⟨⟨by clear hat hv; simp_all, by clear hat hv; simp_all, by clear hat hv; simp_all <;> omega, by clear hat hv; simp_all <;> omega⟩, _, rfl, rfl⟩ (by repeat (first | exact sub_nil | refine sub_cons rfl ?_)) hsub_a
    | skip
  rintro t H ⟨⟨hk1, hc1, hv1, h16⟩, gb, rfl, rfl⟩
  have hq : rightO ⟨k, s, n, ver, c, tm, bs, rs⟩ = resB rs := by unfold rightO; simp only [hk1, hc1, decide_eq_true hv1, Bool.true_and]
  rw [hq]
  repeat' (first | refine aw_seq ?_ | refine zz ?_ | refine zon fun _ => ?_ | refine zoa fun vr lr hr => ?_ | refine zoS (fun _ => ?_) (fun _ => ?_) | refine zqS (fun _ => ?_) (fun _ => ?_) | refine zwS (fun _ => ?_) (fun _ => ?_))
  refine aw_for (t0 := [(1, .pointer (some ⟨gb, 0, none⟩)), (5, I (0 : Nat))]) (fun q t H => ∃ i : Nat, q = rs.length - i ∧ i ≤ rs.length ∧ (∀ j, j < i → resAt rs j = true) ∧ t = [(1, .pointer (some ⟨gb, 0, none⟩)), (5, I i)] ∧ H = [(gb, .cells #[S k, S s, S n, I ver, S c, .bool tm, .bool bs, .slice a rs.length cp] 26)]) ⟨0, rfl, by omega, fun j hj => by omega, rfl, rfl⟩ (by repeat (first | exact sub_nil | refine sub_cons rfl ?_)) ?_
  rintro q t H ⟨i, rfl, hi, hall, rfl, rfl⟩
  by_cases hlt : i < rs.length
  · obtain ⟨r, he⟩ := getI hlt
    obtain ⟨g, o, rfl, hg, hc⟩ := hat i r (i : Int) he rfl
    obtain ⟨c0, c1, -⟩ := res_cells hc
    have hwe := (hwr.at he).1
    have hrr := fun w => Lab.rright_ok r.1 (by omega) w
    cases hr : rightB r.1
    · rw [res_f hlt (by unfold resAt; rw [he]; simp [hr])]
      rw [hr] at hrr
      repeat' (first | refine aw_seq ?_ | refine zz ?_ | refine zon fun _ => ?_ | refine zoa fun vr lr hr => ?_ | ((first | apply ao_call | apply aq_call); exact wants_a; (first | exact oc_func rfl | exact oc_clos rfl rfl); (exact rfl); (first | exact fun w hw => hrr w)) | refine zoS (fun _ => ?_) (fun _ => ?_) | refine zqS (fun _ => ?_) (fun _ => ?_) | refine zwS (fun _ => ?_) (fun _ => ?_))
      exact fun w' hw => ⟨rfl, hw.below⟩
    rw [hr] at hrr
    by_cases hn : r.2 < 0
    · rw [res_f hlt (by unfold resAt; rw [he]; simp [show ¬ (0 ≤ r.2) by omega])]
      repeat' (first | refine aw_seq ?_ | refine zz ?_ | refine zon fun _ => ?_ | refine zoa fun vr lr hr => ?_ | ((first | apply ao_call | apply aq_call); exact wants_a; (first | exact oc_func rfl | exact oc_clos rfl rfl); (exact rfl); (first | exact fun w hw => hrr w)) | refine zoS (fun _ => ?_) (fun _ => ?_) | refine zqS (fun _ => ?_) (fun _ => ?_) | refine zwS (fun _ => ?_) (fun _ => ?_))
      exact fun w' hw => ⟨rfl, hw.below⟩
    cases i with
    | zero =>
      have hok : resAt rs 0 = true := by unfold resAt; rw [he]; simp [hr, show 0 ≤ r.2 by omega]
      repeat' (first | refine aw_seq ?_ | refine zz ?_ | refine zon fun _ => ?_ | refine zoa fun vr lr hr => ?_ | ((first | apply ao_call | apply aq_call); exact wants_a; (first | exact oc_func rfl | exact oc_clos rfl rfl); (exact rfl); (first | exact fun w hw => hrr w)) | refine zoS (fun _ => ?_) (fun _ => ?_) | refine zqS (fun _ => ?_) (fun _ => ?_) | refine zwS (fun _ => ?_) (fun _ => ?_))
      exact lq_normal' ⟨1, rfl, by omega, fun j hj => (show 0 = j by omega) ▸ hok, rfl, rfl⟩ (by omega) (by repeat (first | exact sub_nil | refine sub_cons rfl ?_)) hsub_a
    | succ i =>
      obtain ⟨p, hp⟩ := getI (show i < rs.length by omega)
      obtain ⟨g', o', e1, -, hd⟩ := hat i p (((i + 1 : Nat) : Int) - 1) hp (by omega)
      cases e1
      obtain ⟨d0, -, -⟩ := res_cells hd
      have hwp := (hwr.at hp).1
      have hbf := fun w => Lab.before_ok p.1 r.1 hwp hwe w
      cases hl : lt p.1 r.1
      · rw [res_f hlt (by unfold resAt; rw [he]; simp [hp, hl])]
        rw [show Op.bytesLess p.1 r.1 = _ from hl] at hbf
        repeat' (first | refine aw_seq ?_ | refine zz ?_ | refine zon fun _ => ?_ | refine zoa fun vr lr hr => ?_ | ((first | apply ao_call | apply aq_call); exact wants_a; (first | exact oc_func rfl | exact oc_clos rfl rfl); (exact rfl); (first | exact fun w hw => hrr w | exact fun w hw => hbf w)) | refine zoS (fun _ => ?_) (fun _ => ?_) | refine zqS (fun _ => ?_) (fun _ => ?_) | refine zwS (fun _ => ?_) (fun _ => ?_))
        exact fun w' hw => ⟨rfl, hw.below⟩
      · have hok : resAt rs (i + 1) = true := by unfold resAt; rw [he]; simp [hr, hp, hl, show 0 ≤ r.2 by omega]
        rw [show Op.bytesLess p.1 r.1 = _ from hl] at hbf
        repeat' (first | refine aw_seq ?_ | refine zz ?_ | refine zon fun _ => ?_ | refine zoa fun vr lr hr => ?_ | ((first | apply ao_call | apply aq_call); exact wants_a; (first | exact oc_func rfl | exact oc_clos rfl rfl); (exact rfl); (first | exact fun w hw => hrr w | exact fun w hw => hbf w)) | refine zoS (fun _ => ?_) (fun _ => ?_) | refine zqS (fun _ => ?_) (fun _ => ?_) | refine zwS (fun _ => ?_) (fun _ => ?_))
        exact lq_normal' ⟨i + 2, rfl, by omega, fun j hj => by
          by_cases e1 : j = i + 1
          · subst e1; exact hok
          · exact hall j (by omega), rfl, rfl⟩ (by omega) (by repeat (first | exact sub_nil | refine sub_cons rfl ?_)) hsub_a
  · obtain rfl : i = rs.length := by omega
    rw [res_t h16 hall]
    repeat' (first | refine aw_seq ?_ | refine zz ?_ | refine zon fun _ => ?_ | refine zoa fun vr lr hr => ?_ | refine zoS (fun _ => ?_) (fun _ => ?_) | refine zqS (fun _ => ?_) (fun _ => ?_) | refine zwS (fun _ => ?_) (fun _ => ?_))
    exact fun w' hw => ⟨rfl, hw.below⟩

theorem one_r : rcells [(nObj, 1)] = [S nObj, I 1] := by kernel_rfl
theorem one_v : vcells [(nObj, 1)] = [S nObj, I 0, U2 1] := by kernel_rfl
theorem of_one : ofV [(nObj, 1)] = ([(nObj, 1)], 0) := by kernel_rfl
theorem w_one : wfV [(nObj, 1)] ∧ wfR [(nObj, 1)] ∧ [((nObj, 1) : Ent)].length ≤ 1000 := wf_of (by kernel_rfl)
theorem one_ok (b : Nat) (w : World) (h : OldRow w 2 (.slice (some ⟨b, 0, none⟩) 1 1) 1 [S nObj, I 1]) :
    Calls Try.prog 23 #[.slice (some ⟨b, 0, none⟩) 1 1] w fun e w' => ∃ r, e = .returned (.tuple #[r, I 0]) ∧ NewRow 51 3 w w' r [((nObj, 1) : Ent)].length (vcells [(nObj, 1)]) := by
  have := pof_ok _ [(nObj, 1)] w_one.2.1 w (one_r ▸ h)
  rw [of_one] at this
  exact this

set_option maxHeartbeats 8000000 in
theorem charge_ok (o : Ob) (v : Value) (hwf : wfO o) (w : World) (hv : ResAt w v o.rs) :
    Calls Try.prog 7 #[OV o v] w fun e w' => ∃ r, e = .returned (.tuple #[r, I (chargeO o).2]) ∧ NewRow 51 3 w w' r (chargeO o).1.length (vcells (chargeO o).1) := by
  have hr := fun w' (hb : Below w.heap.size w w') => right_ok o v hwf w' (hv.below hb)
  unfold chargeO
  obtain ⟨k, s, n, ver, c, tm, bs, rs⟩ := o
  refine calls2 (args := [OC k s n ver c tm bs v]) Try.func7 rfl rfl rfl rfl ?_
  cases hq : rightO ⟨k, s, n, ver, c, tm, bs, rs⟩
  · rw [hq] at hr
    rw [if_neg (by decide)]
    repeat' (first | refine aw_seq ?_ | refine zz ?_ | refine zon fun _ => ?_ | refine zoa fun vr lr hr => ?_ | ((first | apply ao_call | apply aq_call); exact wants_a; (first | exact oc_func rfl | exact oc_clos rfl rfl); (exact rfl); (first | exact fun w hw => hr w hw.below)) | refine zoS (fun _ => ?_) (fun _ => ?_) | refine zqS (fun _ => ?_) (fun _ => ?_) | refine zwS (fun _ => ?_) (fun _ => ?_))
    exact fun w' hw => ⟨_, rfl, hw.below, _, RowB.nil, fun _ _ h => by cases h⟩
  · rw [hq] at hr
    rw [if_pos rfl]
    obtain ⟨q1, q2⟩ := of_wf hwf.2.2.2.2
    have ho := fun w' (hb : Below w.heap.size w w') => pof_ok v rs hwf.2.2.2.2 w' (hv.below hb)
    simp only at ho q1 q2 ⊢
    generalize ofV rs = x at ho q1 q2
    obtain ⟨xs, e⟩ := x
    simp only at ho q1 q2 ⊢
    repeat' (first | refine aw_seq ?_ | refine zz ?_ | refine zon fun _ => ?_ | refine zoa fun vr lr hr => ?_ | ((first | apply ao_call | apply aq_call); exact wants_a; (first | exact oc_func rfl | exact oc_clos rfl rfl); (exact rfl); (first | exact fun w hw => hr w hw.below)) | (apply ao_callr2; exact wants_a; (exact oc_func rfl); (exact rfl); (first | exact fun w hw => ho w hw.below); intro vr lr hr) | refine zoS (fun _ => ?_) (fun _ => ?_) | refine zqS (fun _ => ?_) (fun _ => ?_) | refine zwS (fun _ => ?_) (fun _ => ?_))
    revert vr lr hr
    intro v1 k1 r1
    repeat' (first | refine aw_seq ?_ | refine zz ?_ | refine zon fun _ => ?_ | refine zoa fun vr lr hr => ?_ | (apply ao_callr2; exact wants_a; (exact oc_func rfl); (exact rfl); (first | (intro w hw; refine one_ok _ w ?_; exact hw.oldr (RowB.lit rfl) cut_a)); intro vr lr hr) | refine zoS (fun _ => ?_) (fun _ => ?_) | refine zqS (fun _ => ?_) (fun _ => ?_) | refine zwS (fun _ => ?_) (fun _ => ?_))
    revert vr lr hr
    intro v2 k2 r2
    repeat' (first | refine aw_seq ?_ | refine zz ?_ | refine zon fun _ => ?_ | refine zoa fun vr lr hr => ?_ | (apply ao_callr2; exact wants_a; (exact oc_func rfl); (exact rfl); (first | (intro w hw; refine padd_ok _ _ xs [(nObj, 1)] q1 w_one.1 (by omega) w_one.2.2 w ?_ ?_; exact RepH.capr hw r1 cut_a; exact RepH.capr hw r2 cut_a)); intro vr lr hr) | refine zoS (fun _ => ?_) (fun _ => ?_) | refine zqS (fun _ => ?_) (fun _ => ?_) | refine zwS (fun _ => ?_) (fun _ => ?_))
    exact fun w' hw => ⟨_, rfl, hw.below, _, by assumption, fun b o hm => hw.at_ b o (List.mem_append_left _ hm)⟩

theorem radd1_ok (v : Value) (b : Nat) (xs : List Ent) (q1 : wfV xs) (q2 : xs.length ≤ 1000) (w : World) (hv : VecAt w v xs) (h : OldRow w 3 (.slice (some ⟨b, 0, none⟩) 1 1) 1 [S nObj, I 0, U2 1]) :
    Calls Try.prog 26 #[v, .slice (some ⟨b, 0, none⟩) 1 1] w fun e w' => ∃ r, e = .returned (.tuple #[r, I (combV false xs [(nObj, 1)]).2]) ∧ NewRow 51 3 w w' r (combV false xs [(nObj, 1)]).1.length (vcells (combV false xs [(nObj, 1)]).1) :=
  vadd_ok _ _ xs [(nObj, 1)] q1 w_one.1 q2 w_one.2.2 w hv (by unfold VecAt; rw [one_v]; exact h)

set_option maxHeartbeats 8000000 in
theorem rcharge_ok (o : Ob) (v : Value) (hwf : wfO o) (w : World) (hv : ResAt w v o.rs) :
    Calls Try.prog 8 #[OV o v] w fun e w' => ∃ r, e = .returned (.tuple #[r, I (chargeO o).2]) ∧ NewRow 51 3 w w' r (chargeO o).1.length (vcells (chargeO o).1) := by
  have hr := fun w' (hb : Below w.heap.size w w') => rright_ok o v hwf w' (hv.below hb)
  unfold chargeO
  obtain ⟨k, s, n, ver, c, tm, bs, rs⟩ := o
  refine calls2 (args := [OC k s n ver c tm bs v]) Try.func8 rfl rfl rfl rfl ?_
  cases hq : rightO ⟨k, s, n, ver, c, tm, bs, rs⟩
  · rw [hq] at hr
    rw [if_neg (by decide)]
    repeat' (first | refine aw_seq ?_ | refine zz ?_ | refine zon fun _ => ?_ | refine zoa fun vr lr hr => ?_ | ((first | apply ao_call | apply aq_call); exact wants_a; (first | exact oc_func rfl | exact oc_clos rfl rfl); (exact rfl); (first | exact fun w hw => hr w hw.below)) | refine zoS (fun _ => ?_) (fun _ => ?_) | refine zqS (fun _ => ?_) (fun _ => ?_) | refine zwS (fun _ => ?_) (fun _ => ?_))
    exact fun w' hw => ⟨_, rfl, hw.below, _, RowB.nil, fun _ _ h => by cases h⟩
  · rw [hq] at hr
    rw [if_pos rfl]
    obtain ⟨q1, q2⟩ := of_wf hwf.2.2.2.2
    have ho := fun w' (hb : Below w.heap.size w w') => vof_ok v rs hwf.2.2.2.2 w' (hv.below hb)
    simp only at ho q1 q2 ⊢
    generalize ofV rs = x at ho q1 q2
    obtain ⟨xs, e⟩ := x
    simp only at ho q1 q2 ⊢
    repeat' (first | refine aw_seq ?_ | refine zz ?_ | refine zon fun _ => ?_ | refine zoa fun vr lr hr => ?_ | ((first | apply ao_call | apply aq_call); exact wants_a; (first | exact oc_func rfl | exact oc_clos rfl rfl); (exact rfl); (first | exact fun w hw => hr w hw.below)) | (apply ao_callr2; exact wants_a; (exact oc_func rfl); (exact rfl); (first | exact fun w hw => ho w hw.below); intro vr lr hr) | refine zoS (fun _ => ?_) (fun _ => ?_) | refine zqS (fun _ => ?_) (fun _ => ?_) | refine zwS (fun _ => ?_) (fun _ => ?_))
    revert vr lr hr
    intro v1 k1 r1
    repeat' (first | refine aw_seq ?_ | refine zz ?_ | refine zon fun _ => ?_ | refine zoa fun vr lr hr => ?_ | (apply ao_callr2; exact wants_a; (exact oc_func rfl); (exact rfl); (first | (intro w hw; refine radd1_ok _ _ xs q1 (by omega) w ?_ ?_; exact hw.oldr r1 cut_a; exact hw.oldr (RowB.lit rfl) cut_a)); intro vr lr hr) | refine zoS (fun _ => ?_) (fun _ => ?_) | refine zqS (fun _ => ?_) (fun _ => ?_) | refine zwS (fun _ => ?_) (fun _ => ?_))
    exact fun w' hw => ⟨_, rfl, hw.below, _, by assumption, fun b o hm => hw.at_ b o (List.mem_append_left _ hm)⟩

theorem flat_r : ∀ (rs : List Ent), (rcells rs).all flat = true
  | [] => rfl
  | r :: rs => by
    have ih := flat_r rs
    unfold rcells at ih ⊢
    rw [List.flatMap_cons, List.all_append, ih]
    rfl

set_option maxHeartbeats 8000000 in
theorem own_ok (o : Ob) (v : Value) (hwf : wfO o) (w : World) (hv : ResAt w v o.rs) :
    Calls Try.prog 11 #[OV o v] w fun e w' => ∃ r, e = .returned (OV o r) ∧ NewRow 43 2 w w' r o.rs.length (rcells o.rs) := by
  obtain ⟨k, s, n, ver, c, tm, bs, rs⟩ := o
  have hln := hwf.2.2.2.2.1
  simp only at hv hln ⊢
  obtain ⟨a, cp, rfl, -⟩ := OldRow.cells cellsR_len hv
  have hfl := flat_r rs
  refine callsC1 (rt := 26) (args := [OC k s n ver c tm bs (.slice a rs.length cp)]) Try.func11 rfl rfl rfl rfl ?_
  repeat' (first | refine aw_seq ?_ | refine zz ?_ | refine zon fun _ => ?_ | refine zoa fun vr lr hr => ?_ | (apply ao_make; exact wants_a; exact rfl; exact rfl; omega; omega; exact rfl; intro b1 cs1 hl1) | (apply ao_valw; exact wants_a; (apply ow_copy; exact rfl; exact rfl; exact hv; exact rfl; exact has_a; exact hl1; exact hfl); exact rfl; exact upd_a) | refine zoS (fun _ => ?_) (fun _ => ?_) | refine zqS (fun _ => ?_) (fun _ => ?_) | refine zwS (fun _ => ?_) (fun _ => ?_))
  exact fun w' hw => ⟨_, rfl, hw.below, _, RowB.lit hv.1, fun b o hm => hw.at_ b o (List.mem_append_left _ hm)⟩
end Ojt
end Go.Proofs.Ythabchmfhfhcaaa
