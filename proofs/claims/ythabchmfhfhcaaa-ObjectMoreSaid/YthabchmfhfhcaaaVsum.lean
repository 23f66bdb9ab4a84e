/- Contracts of the landed combined, Add, Sub, Of of layer 4; conditions: at most 1,000 entries, names of at most 100,000 bytes, numbers of 128 bits, slices with room for no less than they have. -/
import Derived.Test.YthabchmfhfhcaaaVadd
namespace Go.Proofs.Ythabchmfhfhcaaa
namespace Vec
open Go Go.RowKit Sx Wid Lab
attribute [local irreducible] Go.Calls

set_option maxHeartbeats 8000000 in
theorem pcombined_ok (fo : FuncId) [FnB Try.prog fo] (less : Bool) (hof : ∀ x y w, inW x → inW y → Calls Try.prog fo #[WV x, WV y] w fun e w' => e = .returned (sumV (opI less x y)) ∧ Below w.heap.size w w')
    (v u : Value) (es fs : List Ent) (hw1 : wfV es) (hw2 : wfV fs) (hl1 : es.length ≤ 1000) (hl2 : fs.length ≤ 1000) (w : World) (hv : VecCap w v es) (hu : VecCap w u fs) :
    Calls Try.prog 44 #[v, u, .func (.func fo) #[] #[]] w fun e w' => ∃ r, e = .returned (.tuple #[r, I (combV less es fs).2]) ∧ NewRow 51 3 w w' r (combV less es fs).1.length (vcells (combV less es fs).1) := by
  refine calls2 (args := [v, u, .func (.func fo) #[] #[]]) Try.func44 rfl rfl rfl rfl ?_
  have hra : ∀ w', Below w.heap.size w w' → Calls Try.prog 17 #[v] w' fun e w'' => e = .returned (.bool (rightV es)) ∧ Below w'.heap.size w' w'' := fun w' hb => pright_ok v es hw1 w' (hv.vec.below hb)
  have hrb : ∀ w', Below w.heap.size w w' → Calls Try.prog 17 #[u] w' fun e w'' => e = .returned (.bool (rightV fs)) ∧ Below w'.heap.size w' w'' := fun w' hb => pright_ok u fs hw2 w' (hu.vec.below hb)
  cases h1 : rightV es
  · have hq : combV less es fs = ([], 1) := by unfold combV; rw [h1]; rfl
    rw [hq]
    rw [h1] at hra
    repeat' (first | refine aw_seq ?_ | refine zz ?_ | refine zon fun _ => ?_ | refine zoa fun vr lr hr => ?_ | ((first | apply ao_call | apply aq_call); exact wants_a; (first | exact oc_func rfl | exact oc_clos rfl rfl); (exact rfl); (first | exact fun w hw => hra w hw.below | exact fun w hw => hrb w hw.below)) | refine zoS (fun _ => ?_) (fun _ => ?_) | refine zqS (fun _ => ?_) (fun _ => ?_) | refine zwS (fun _ => ?_) (fun _ => ?_))
    exact fun w' hw => ⟨_, rfl, hw.below, _, RowB.nil, fun _ _ h => by cases h⟩
  cases h2 : rightV fs
  · have hq : combV less es fs = ([], 1) := by unfold combV; rw [h1, h2]; rfl
    rw [hq]
    rw [h1] at hra
    rw [h2] at hrb
    repeat' (first | refine aw_seq ?_ | refine zz ?_ | refine zon fun _ => ?_ | refine zoa fun vr lr hr => ?_ | ((first | apply ao_call | apply aq_call); exact wants_a; (first | exact oc_func rfl | exact oc_clos rfl rfl); (exact rfl); (first | exact fun w hw => hra w hw.below | exact fun w hw => hrb w hw.below)) | refine zoS (fun _ => ?_) (fun _ => ?_) | refine zqS (fun _ => ?_) (fun _ => ?_) | refine zwS (fun _ => ?_) (fun _ => ?_))
    exact fun w' hw => ⟨_, rfl, hw.below, _, RowB.nil, fun _ _ h => by cases h⟩
  have hq : combV less es fs = (match bothL less es es fs with | some o => (o, 0) | none => ([], 3)) := by unfold combV; rw [h1, h2]; rfl
  rw [hq]
  rw [h1] at hra
  rw [h2] at hrb
  have hm := fun w' (hb : Below w.heap.size w w') => pmerged_ok fo less hof v u es fs hw1 hw2 hl1 hl2 w' (hv.below hb) (hu.below hb)
  rw [mrg_both hw1 h1 h2 (by omega)] at hm
  cases hb : bothL less es es fs with
  | none =>
    rw [hb] at hm
    simp only [okM, outM, Option.isSome_none, Option.getD_none] at hm
    repeat' (first | refine aw_seq ?_ | refine zz ?_ | refine zon fun _ => ?_ | refine zoa fun vr lr hr => ?_ | ((first | apply ao_call | apply aq_call); exact wants_a; (first | exact oc_func rfl | exact oc_clos rfl rfl); (exact rfl); (first | exact fun w hw => hra w hw.below | exact fun w hw => hrb w hw.below)) | (apply ao_callr2; exact wants_a; (exact oc_func rfl); (exact rfl); (first | exact fun w hw => hm w hw.below); intro vr lr hr) | refine zoS (fun _ => ?_) (fun _ => ?_) | refine zqS (fun _ => ?_) (fun _ => ?_) | refine zwS (fun _ => ?_) (fun _ => ?_))
    exact fun w' hw => ⟨_, rfl, hw.below, _, RowB.nil, fun _ _ h => by cases h⟩
  | some o =>
    rw [hb] at hm
    simp only [okM, outM, Option.isSome_some, Option.getD_some] at hm
    repeat' (first | refine aw_seq ?_ | refine zz ?_ | refine zon fun _ => ?_ | refine zoa fun vr lr hr => ?_ | ((first | apply ao_call | apply aq_call); exact wants_a; (first | exact oc_func rfl | exact oc_clos rfl rfl); (exact rfl); (first | exact fun w hw => hra w hw.below | exact fun w hw => hrb w hw.below)) | (apply ao_callr2; exact wants_a; (exact oc_func rfl); (exact rfl); (first | exact fun w hw => hm w hw.below); intro vr lr hr) | refine zoS (fun _ => ?_) (fun _ => ?_) | refine zqS (fun _ => ?_) (fun _ => ?_) | refine zwS (fun _ => ?_) (fun _ => ?_))
    exact fun w' hw => ⟨_, rfl, hw.below, _, by assumption, fun b o hm => hw.at_ b o (List.mem_append_left _ hm)⟩

set_option maxHeartbeats 1000000 in
theorem padd_ok (v u : Value) (es fs : List Ent) (hw1 : wfV es) (hw2 : wfV fs) (hl1 : es.length ≤ 1000) (hl2 : fs.length ≤ 1000) (w : World) (hv : VecCap w v es) (hu : VecCap w u fs) :
    Calls Try.prog 24 #[v, u] w fun e w' => ∃ r, e = .returned (.tuple #[r, I (combV false es fs).2]) ∧ NewRow 51 3 w w' r (combV false es fs).1.length (vcells (combV false es fs).1) := by
  refine calls2 (args := [v, u]) Try.func24 rfl rfl rfl rfl ?_
  repeat' (first | refine aw_seq ?_ | refine zz ?_ | refine zon fun _ => ?_ | refine zoa fun vr lr hr => ?_ | (apply ao_callr2; exact wants_a; (exact oc_func rfl); (exact rfl); (first | exact fun w hw => pcombined_ok 43 false addP v u es fs hw1 hw2 hl1 hl2 w (hv.below hw.below) (hu.below hw.below)); intro vr lr hr) | refine zoS (fun _ => ?_) (fun _ => ?_) | refine zqS (fun _ => ?_) (fun _ => ?_) | refine zwS (fun _ => ?_) (fun _ => ?_))
  exact fun w' hw => ⟨_, rfl, hw.below, _, hr, fun b o hm => hw.at_ b o (List.mem_append_left _ hm)⟩
theorem ofP (n : Int) (h0 : -9223372036854775808 ≤ n) (h1 : n ≤ 9223372036854775807) (w : World) : Calls Try.prog 42 #[I n] w fun e w' => e = .returned (WV n) ∧ Below w.heap.size w w' := by
  have hin : inW n := by unfold inW; omega
  have h := Wid.of_ok n h0 h1 w
  have e1 : sHi n = (if n < 0 then -1 else 0) := by unfold sHi; rw [sN_in hin]; split <;> omega
  have e2 : sLo n = n % 18446744073709551616 := by unfold sLo; rw [sN_in hin]
  show Calls _ _ _ _ fun e w' => e = .returned (W2 (sHi n) (sLo n)) ∧ _
  rw [e1, e2]
  exact h
/-- One resource merged in. -/
theorem pone_ok (v u : Value) (es : List Ent) (r : Ent) (hw1 : wfV es) (hl1 : es.length ≤ 1000) (hr : Rise es) (h0 : ∀ e ∈ es, e.2 ≠ 0) (hnm : r.1.length ≤ 100000) (hx : inW r.2) (hin : inW (getV es r.1 + r.2)) (w : World) (hv : VecCap w v es) (hu : VecCap w u [r]) :
    Calls Try.prog 41 #[v, u, .func (.func 43) #[] #[]] w fun e w' => ∃ x, e = .returned (.tuple #[x, .bool true]) ∧ NewRow 51 3 w w' x (addR es r).length (vcells (addR es r)) := by
  have hw2 : wfV [r] := ⟨by simp, fun e he => by rw [List.mem_singleton.1 he]; exact ⟨hnm, hx⟩⟩
  have h := pmerged_ok 43 false addP v u es [r] hw1 hw2 hl1 (by simp) w hv hu
  rw [show mrgL false (es.length + [r].length + 1) es [r] = some (addR es r) from mrg_one hr h0 hin (get_inW hw1) (by simp)] at h
  exact h

set_option maxHeartbeats 8000000 in
theorem pof_ok (v : Value) (rs : List Ent) (hwf : wfR rs) (w : World) (hv : ResAt w v rs) :
    Calls Try.prog 23 #[v] w fun e w' => ∃ r, e = .returned (.tuple #[r, I (ofV rs).2]) ∧ NewRow 51 3 w w' r (ofV rs).1.length (vcells (ofV rs).1) := by
  have hln := hwf.1
  obtain ⟨a, c, rfl, hat⟩ := OldRow.cells cellsR_len hv
  refine calls2 (args := [.slice a rs.length c]) Try.func23 rfl rfl rfl rfl ?_
  repeat' (first | refine aw_seq ?_ | refine zz ?_ | refine zon fun _ => ?_ | refine zoa fun vr lr hr => ?_ | refine zoS (fun _ => ?_) (fun _ => ?_) | refine zqS (fun _ => ?_) (fun _ => ?_) | refine zwS (fun _ => ?_) (fun _ => ?_))
  refine aw_for (t0 := [(0, .slice a rs.length c), (9, .slice a rs.length c), (10, I rs.length), (11, I (0 : Nat))]) (fun q t H => ∃ (i : Nat), q = rs.length - i ∧ i ≤ rs.length ∧ (∀ j r, j < i → rs[j]? = some r → okR r = true) ∧ t = [(0, .slice a rs.length c), (9, .slice a rs.length c), (10, I rs.length), (11, I i)] ∧ H = []) ⟨0, rfl, by omega, fun j r h => by omega, rfl, rfl⟩ (by repeat (first | exact sub_nil | refine sub_cons rfl ?_)) ?_
  rintro q t H ⟨i, rfl, hi, hall, rfl, rfl⟩
  by_cases hlt : i < rs.length
  · obtain ⟨r, he⟩ := getI hlt
    obtain ⟨g, o, rfl, hg, hc⟩ := hat i r (i : Int) he rfl
    obtain ⟨c0, c1, cA⟩ := res_cells hc
    have hwe := hwf.at he
    have hrr := fun w => Lab.right_ok r.1 w
    cases hr : rightB r.1
    · have hq : ofV rs = ([], 1) := by unfold ofV; rw [all_no he (by simp [okR, hr])]; rfl
      rw [hq]
      rw [hr] at hrr
      repeat' (first | refine aw_seq ?_ | ((first | apply ao_val | apply aq_val); exact wants_a; (first | exact ov_load_oa rfl hg cA rfl | exact ov_a); (exact rfl)) | refine zy ?_ | refine zon fun _ => ?_ | refine zoa fun vr lr hr => ?_ | ((first | apply ao_call | apply aq_call); exact wants_a; (first | exact oc_func rfl | exact oc_clos rfl rfl); (exact rfl); (first | exact fun w hw => hrr w)) | refine zoS (fun _ => ?_) (fun _ => ?_) | refine zqS (fun _ => ?_) (fun _ => ?_) | refine zwS (fun _ => ?_) (fun _ => ?_))
      exact fun w' hw => ⟨_, rfl, hw.below, _, RowB.nil, fun _ _ h => by cases h⟩
    rw [hr] at hrr
    by_cases hn : r.2 < 0
    · have hq : ofV rs = ([], 1) := by unfold ofV; rw [all_no he (by simp [okR, hr]; omega)]; rfl
      rw [hq]
      repeat' (first | refine aw_seq ?_ | ((first | apply ao_val | apply aq_val); exact wants_a; (first | exact ov_load_oa rfl hg cA rfl | exact ov_a); (exact rfl)) | refine zy ?_ | refine zon fun _ => ?_ | refine zoa fun vr lr hr => ?_ | ((first | apply ao_call | apply aq_call); exact wants_a; (first | exact oc_func rfl | exact oc_clos rfl rfl); (exact rfl); (first | exact fun w hw => hrr w)) | refine zoS (fun _ => ?_) (fun _ => ?_) | refine zqS (fun _ => ?_) (fun _ => ?_) | refine zwS (fun _ => ?_) (fun _ => ?_))
      exact fun w' hw => ⟨_, rfl, hw.below, _, RowB.nil, fun _ _ h => by cases h⟩
    · repeat' (first | refine aw_seq ?_ | ((first | apply ao_val | apply aq_val); exact wants_a; (first | exact ov_load_oa rfl hg cA rfl | exact ov_a); (exact rfl)) | refine zy ?_ | refine zon fun _ => ?_ | refine zoa fun vr lr hr => ?_ | ((first | apply ao_call | apply aq_call); exact wants_a; (first | exact oc_func rfl | exact oc_clos rfl rfl); (exact rfl); (first | exact fun w hw => hrr w)) | refine zoS (fun _ => ?_) (fun _ => ?_) | refine zqS (fun _ => ?_) (fun _ => ?_) | refine zwS (fun _ => ?_) (fun _ => ?_))
      exact lq_normal' ⟨i + 1, rfl, by omega, fun j x hj hx => by
        by_cases e1 : j = i
        · subst e1; rw [he] at hx; cases hx; simp [okR, hr]; omega
        · exact hall j x (by omega) hx, rfl, rfl⟩ (by omega) (by repeat (first | exact sub_nil | refine sub_cons rfl ?_)) hsub_a
  obtain rfl : i = rs.length := by omega
  have hall2 : rs.all okR = true := all_yes fun j r hj => hall j r (List.getElem?_eq_some_iff.1 hj).1 hj
  by_cases h16 : rs.length ≤ 16
  · have hq : ofV rs = (rs.foldl addR [], 0) := by unfold ofV; rw [if_pos hall2, if_pos h16]
    rw [hq]
    repeat' (first | refine aw_seq ?_ | refine zz ?_ | refine zon fun _ => ?_ | refine zoa fun vr lr hr => ?_ | refine zoS (fun _ => ?_) (fun _ => ?_) | refine zqS (fun _ => ?_) (fun _ => ?_) | refine zwS (fun _ => ?_) (fun _ => ?_))
    refine aw_for (t0 := [(6, .slice none 0 0), (28, .slice a rs.length c), (29, I rs.length), (30, I (0 : Nat))]) (fun q t H => ∃ (i : Nat) (x : Value) (l : Hp) (outs : List Ent), q = rs.length - i ∧ i ≤ rs.length ∧ RowB 51 3 x l outs.length (vcells outs) ∧ outs.length ≤ i ∧ (∀ e ∈ outs, e.1.length ≤ 100000 ∧ inW e.2) ∧ (∀ e ∈ outs, 0 ≤ e.2 ∧ e.2 ≤ (i : Int) * 9223372036854775807) ∧ Rise outs ∧ (∀ e ∈ outs, e.2 ≠ 0) ∧ (rs.drop i).foldl addR outs = rs.foldl addR [] ∧ t = [(6, x), (28, .slice a rs.length c), (29, I rs.length), (30, I i)] ∧ H = l ++ []) ⟨0, _, _, [], rfl, by omega, RowB.nil, by simp, fun _ h => by simp at h, fun _ h => by simp at h, List.Pairwise.nil, fun _ h => by simp at h, rfl, rfl, rfl⟩ (by repeat (first | exact sub_nil | refine sub_cons rfl ?_)) ?_
    rintro q t H ⟨i, x, l, outs, rfl, hi, hr, hol, hwo, hrng, hrise, hnz, hfold, rfl, rfl⟩
    have hwfo : wfV outs := ⟨by omega, hwo⟩
    by_cases hlt : i < rs.length
    · obtain ⟨r, he⟩ := getI hlt
      obtain ⟨g, o, rfl, hg, hc⟩ := hat i r (i : Int) he rfl
      obtain ⟨c0, c1, cA⟩ := res_cells hc
      have hwe := hwf.at he
      have hok := hall i r hlt he
      simp only [okR, Bool.and_eq_true, decide_eq_true_eq] at hok
      have hd : rs.drop i = r :: rs.drop (i + 1) := by
        have := List.drop_eq_getElem_cons hlt
        rw [this, (List.getElem?_eq_some_iff.1 he).2]
      rw [hd, List.foldl_cons] at hfold
      obtain ⟨⟨g0, g1⟩, hrng2⟩ := add_rng (B := (i : Int) * 9223372036854775807) hrng ⟨hok.2, hwe.2.2⟩ (by omega)
      have hin1 : inW (getV outs r.1) := by unfold inW; omega
      have hin2 : inW r.2 := by unfold inW; omega
      have hin3 : inW (getV outs r.1 + r.2) := by unfold inW; omega
      have hpl := (put_len (nm := r.1) (n := getV outs r.1 + r.2) outs (getV outs r.1 + r.2 == 0)).1
      have hpl' : (addR outs r).length ≤ outs.length + 1 := hpl
      have hwp := wf_put (n := getV outs r.1 + r.2) hwo hwe.1 hin3
      have hnz2 : ∀ e ∈ addR outs r, e.2 ≠ 0 := fun e he => by
        rcases put_mem he with ⟨rfl, hz⟩ | he
        · exact hz
        · exact hnz e he
      repeat' (first | (apply ao_nilh; exact hsub_a) | apply ao_nil | apply aq_nil | apply ah_end | ((first | apply ao_val | apply aq_val | (apply ah_take; (exact rfl))); exact wants_a; (first | exact ov_load_oa rfl hg cA rfl | exact ov_a); (exact rfl)) | ((first | apply ao_skip | apply aq_skip | (apply ah_skip; (exact rfl))); exact nots_a; (exact rfl)) | (refine ao_is ?_; first | (apply ao_new; exact wants_a; exact on_a; (exact rfl); intro _) | (apply ao_store; exact wants_a; exact ow_a; exact upd_a) | (apply ao_valw; exact wants_a; exact ox_a; (exact rfl); exact upd_a) | (apply ao_skip0; exact nots_a) | (apply ao_append; exact wants_a; (exact rfl); assumption; (exact rfl); exact cut_a; exact has_a; (exact rfl); (exact rfl); omega; omega; omega; (exact rfl); intro vr lr hr)) | ((first | apply ao_call | apply aq_call); exact wants_a; (first | exact oc_func rfl | exact oc_clos rfl rfl); (exact rfl); (first | exact fun w hw => ofP r.2 hwe.2.1 hwe.2.2 w)) | (apply ao_callr2; exact wants_a; (exact oc_func rfl); (exact rfl); (first | exact fun w hw => pone_ok _ _ outs r hwfo (by omega) hrise hnz hwe.1 hin2 hin3 w ⟨(hw.oldr (by assumption) cut_a), hr.capd⟩ ⟨hw.oldr (RowB.lit rfl) cut_a, (RowB.lit (e := 51) (sz := 3) (cs := [S r.1, I (sHi r.2), .int .u64 (sLo r.2)]) rfl).capd⟩); intro vr lr hr) | (apply ah_one; (exact rfl)) | (apply ah_two; (exact rfl); (exact rfl)) | (apply ah_three; (exact rfl); (exact rfl); (exact rfl)) | (refine aw_is ?_; first | (apply aw_held (id := 13) (pl := (.t 0 (.t 1 (.t 2 (.t 3 (.t 4 (.o 5 (.t 6 (.o 7 (.o 8 (.t 9 (.t 10 (.t 11 (.t 12 .e)))))))))))))); (kernel_rfl); (kernel_rfl); (kernel_rfl); (solve | (exact List.Sublist.refl _))) | refine aw_seq ?_ | refine aw_block ?_ | refine aw_region ?_ | refine aw_skip ?_ | refine aw_exit ?_ | refine aw_ret ?_ | refine aw_label ?_ | refine aw_scope ?_ | refine aw_cond_t rfl (by with_reducible rfl) ?_ | refine aw_cond_f rfl (by with_reducible rfl) ?_ | refine aw_draw (by kernel_rfl) (by kernel_rfl) ?_) | (first | (refine ah_is ?_; (fail_if_success first | refine ah_glit (b := true) rfl rfl rfl (by with_reducible rfl) ?_ | refine ah_glit (b := false) rfl rfl rfl (by with_reducible rfl) ?_); apply ah_gt; (exact rfl); (exact rfl); (exact rfl); exact t_a) | ((refine ao_is ?_; (fail_if_success first | refine ao_glit (b := true) rfl rfl (by with_reducible rfl) ?_ | refine ao_glit (b := false) rfl rfl (by with_reducible rfl) ?_)); apply ao_gt; (exact rfl); (exact rfl); exact t_a) | ((refine aq_is ?_; (fail_if_success first | refine aq_glit (b := true) rfl rfl (by with_reducible rfl) ?_ | refine aq_glit (b := false) rfl rfl (by with_reducible rfl) ?_)); apply aq_gt; (exact rfl); (exact rfl); exact t_a) | (apply aw_ct; (exact rfl); exact t_a)) | (first | (refine ah_is ?_; (fail_if_success first | refine ah_glit (b := true) rfl rfl rfl (by with_reducible rfl) ?_ | refine ah_glit (b := false) rfl rfl rfl (by with_reducible rfl) ?_); apply ah_gf; (exact rfl); (exact rfl); (exact rfl); exact f_a) | ((refine ao_is ?_; (fail_if_success first | refine ao_glit (b := true) rfl rfl (by with_reducible rfl) ?_ | refine ao_glit (b := false) rfl rfl (by with_reducible rfl) ?_)); apply ao_gf; (exact rfl); (exact rfl); exact f_a) | ((refine aq_is ?_; (fail_if_success first | refine aq_glit (b := true) rfl rfl (by with_reducible rfl) ?_ | refine aq_glit (b := false) rfl rfl (by with_reducible rfl) ?_)); apply aq_gf; (exact rfl); (exact rfl); exact f_a) | (apply aw_cf; (exact rfl); exact f_a)) | refine at_normal ?_ | refine at_exit ?_ | refine at_ret ?_ | refine ib_normal ?_ | refine ib_exit ?_ | refine ib_other ?_ | refine ib_ret ?_ | refine lq_exit ?_ | refine lq_ret ?_ | refine ci_ret ?_ | refine ci_exit ?_ | refine r1_ret rfl ?_ | refine r1_normal rfl ?_ | refine r2_ret rfl rfl ?_ | refine r2_normal rfl rfl ?_ | refine r3_ret rfl rfl rfl ?_ | refine r3_normal rfl rfl rfl ?_ | refine ng_normal ?_ | refine ng_exit ?_ | refine ng_ret ?_ | (apply rt_ret; (exact rfl); (exact rfl); (exact rfl); exact has_a; exact has_a; (exact rfl); (exact rfl)) | (apply rc1_ret; (exact rfl); exact has_a; (exact rfl)) | (apply rc2_ret; (exact rfl); exact has_a; (exact rfl); (exact rfl)) | (refine ao_is ?_; (fail_if_success first | refine ao_glit (b := true) rfl rfl (by with_reducible rfl) ?_ | refine ao_glit (b := false) rfl rfl (by with_reducible rfl) ?_); refine ao_gbool rfl rfl (fun _ => ?_) (fun _ => ?_)) | (refine aq_is ?_; (fail_if_success first | refine aq_glit (b := true) rfl rfl (by with_reducible rfl) ?_ | refine aq_glit (b := false) rfl rfl (by with_reducible rfl) ?_); refine aq_gbool rfl rfl (fun _ => ?_) (fun _ => ?_)) | (refine aw_is ?_; refine aw_cond rfl (fun _ => ?_) (fun _ => ?_)))
      all_goals exact lq_normal' ⟨i + 1, _, _, addR outs r, rfl, by omega, (by assumption), by omega, hwp, fun e he => ⟨(hrng2 e he).1, by have := (hrng2 e he).2; omega⟩, put_rise hrise, hnz2, hfold, rfl, rfl⟩ (by omega) (by repeat (first | exact sub_nil | refine sub_cons rfl ?_)) hsub_a
    · obtain rfl : i = rs.length := by omega
      have hnil : rs.drop rs.length = [] := List.drop_eq_nil_of_le (by omega)
      rw [hnil, List.foldl_nil] at hfold
      rw [← hfold]
      repeat' (first | refine aw_seq ?_ | refine zz ?_ | refine zon fun _ => ?_ | refine zoa fun vr lr hr => ?_ | refine zoS (fun _ => ?_) (fun _ => ?_) | refine zqS (fun _ => ?_) (fun _ => ?_) | refine zwS (fun _ => ?_) (fun _ => ?_))
      exact fun w' hw => ⟨_, rfl, hw.below, _, hr, fun b o hm => hw.at_ b o (List.mem_append_left _ hm)⟩
  · have hq : ofV rs = ([], 3) := by unfold ofV; rw [if_pos hall2, if_neg h16]
    rw [hq]
    repeat' (first | refine aw_seq ?_ | refine zz ?_ | refine zon fun _ => ?_ | refine zoa fun vr lr hr => ?_ | refine zoS (fun _ => ?_) (fun _ => ?_) | refine zqS (fun _ => ?_) (fun _ => ?_) | refine zwS (fun _ => ?_) (fun _ => ?_))
    exact fun w' hw => ⟨_, rfl, hw.below, _, RowB.nil, fun _ _ h => by cases h⟩
end Vec
end Go.Proofs.Ythabchmfhfhcaaa
