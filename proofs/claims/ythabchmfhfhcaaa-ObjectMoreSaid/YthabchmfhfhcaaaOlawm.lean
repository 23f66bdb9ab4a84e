/- Walk of layer 5: ObjectMore; conditions: none. -/
import Derived.Test.YthabchmfhfhcaaaOlawt
namespace Go.Proofs.Ythabchmfhfhcaaa
namespace Ojt
open Go Go.RowKit Sx Wid Lab Vec
attribute [local irreducible] Go.Calls

/-- What the resources of a name come to. -/
def sumN : List Ent → Nm → Int
  | [], _ => 0
  | r :: rs, m => (if r.1 = m then r.2 else 0) + sumN rs m
theorem sum_app (m : Nm) : ∀ (a b : List Ent), sumN (a ++ b) m = sumN a m + sumN b m
  | [], b => by show sumN b m = 0 + sumN b m; omega
  | r :: a, b => by
    show (if r.1 = m then r.2 else 0) + sumN (a ++ b) m = (if r.1 = m then r.2 else 0) + sumN a m + sumN b m
    rw [sum_app m a b]
    omega
theorem sum_rng (m : Nm) : ∀ {rs : List Ent}, (∀ r ∈ rs, 0 ≤ r.2 ∧ r.2 ≤ 9223372036854775807) → 0 ≤ sumN rs m ∧ sumN rs m ≤ (rs.length : Int) * 9223372036854775807
  | [], _ => by unfold sumN; simp
  | r :: rs, h => by
    have h1 := h r List.mem_cons_self
    have h2 := sum_rng m fun x hx => h x (List.mem_cons_of_mem r hx)
    unfold sumN
    rw [List.length_cons]
    split <;> omega
theorem sum_no {m : Nm} : ∀ {rs : List Ent}, (∀ r ∈ rs, r.1 ≠ m) → sumN rs m = 0
  | [], _ => rfl
  | r :: rs, h => by
    unfold sumN
    rw [if_neg (h r List.mem_cons_self), sum_no fun x hx => h x (List.mem_cons_of_mem r hx)]
    rfl
theorem lt_ne {a b : Nm} (h : lt a b = true) : a ≠ b := fun e => by rw [e, lt_irrefl] at h; cases h
theorem sum_at : ∀ {rs : List Ent}, Rise rs → ∀ {r : Ent}, r ∈ rs → sumN rs r.1 = r.2
  | [], _, _, h => by cases h
  | e :: rs, hr, r, h => by
    obtain ⟨h1, h2⟩ := rise_cons hr
    unfold sumN
    rcases List.mem_cons.1 h with rfl | h
    · rw [if_pos rfl, sum_no fun x hx => (lt_ne (h1 x hx)).symm]
      omega
    · rw [if_neg (lt_ne (h1 r h)), sum_at h2 h]
      omega
theorem fold_get : ∀ (rs outs : List Ent), Rise outs → Rise (rs.foldl addR outs) ∧ ∀ m, getV (rs.foldl addR outs) m = getV outs m + sumN rs m
  | [], outs, h => ⟨h, fun m => by show getV outs m = getV outs m + 0; omega⟩
  | r :: rs, outs, h => by
    obtain ⟨h1, h2⟩ := fold_get rs (addR outs r) (put_rise h)
    refine ⟨h1, fun m => ?_⟩
    rw [List.foldl_cons, h2]
    have hs : sumN (r :: rs) m = (if r.1 = m then r.2 else 0) + sumN rs m := rfl
    rw [hs]
    unfold addR
    rw [put_get h]
    by_cases e : r.1 = m
    · rw [if_pos e.symm, if_pos e, e]
      omega
    · rw [if_neg fun x => e x.symm, if_neg e]
      omega
theorem fold_mem : ∀ (rs outs : List Ent), (∀ e ∈ outs, rightB e.1 = true ∧ e.2 ≠ 0) → (∀ r ∈ rs, rightB r.1 = true) → ∀ e ∈ rs.foldl addR outs, rightB e.1 = true ∧ e.2 ≠ 0
  | [], _, h, _ => h
  | r :: rs, outs, h, g => by
    rw [List.foldl_cons]
    refine fold_mem rs (addR outs r) (fun e he => ?_) fun x hx => g x (List.mem_cons_of_mem r hx)
    rcases put_mem he with ⟨rfl, h0⟩ | he
    · exact ⟨g r List.mem_cons_self, h0⟩
    · exact h e he
theorem res_all {rs : List Ent} (h : resB rs = true) : rs.length ≤ 16 ∧ Rise rs ∧ ∀ r ∈ rs, rightB r.1 = true ∧ 0 ≤ r.2 := by
  unfold resB at h
  rw [Bool.and_eq_true, decide_eq_true_eq, List.all_eq_true] at h
  obtain ⟨h1, h2⟩ := h
  refine ⟨h1, rise_of fun j p e hp he => ?_, fun r hm => ?_⟩
  · have := h2 (j + 1) (List.mem_range.2 (List.getElem?_eq_some_iff.1 he).1)
    unfold resAt at this
    rw [he] at this
    simp only [hp, Bool.and_eq_true] at this
    exact this.2
  · obtain ⟨j, hj⟩ := List.getElem?_of_mem hm
    have := h2 j (List.mem_range.2 (List.getElem?_eq_some_iff.1 hj).1)
    unfold resAt at this
    rw [hj] at this
    simp only [Bool.and_eq_true, decide_eq_true_eq] at this
    exact this.1
theorem right_res {o : Ob} (h : rightO o = true) : resB o.rs = true := by
  unfold rightO at h
  simp only [Bool.and_eq_true] at h
  exact h.2.2.2
theorem more {o : Ob} (hw : wfO o) (h : rightO o = true) : ∃ x, combV false (ofV o.rs).1 [(nObj, 1)] = (x, 0) ∧ rightV x = true ∧ wfV x ∧ x.length ≤ o.rs.length + 1 ∧ ∀ m, getV x m = sumN o.rs m + (if m = nObj then 1 else 0) := by
  obtain ⟨h16, hrise, hall⟩ := res_all (right_res h)
  obtain ⟨q1, q2⟩ := of_wf hw.2.2.2.2
  have ho : (ofV o.rs).1 = o.rs.foldl addR [] := by
    unfold ofV
    rw [if_pos (List.all_eq_true.2 fun r hr => by unfold okR; rw [(hall r hr).1, decide_eq_true (hall r hr).2]; rfl), if_pos h16]
  obtain ⟨g1, g2⟩ := fold_get o.rs [] (by unfold Rise; exact List.Pairwise.nil)
  have hr1 : rightV (ofV o.rs).1 = true := by
    rw [ho]
    exact right_of g1 (fold_mem o.rs [] (fun e he => by cases he) fun r hr => (hall r hr).1)
  have hr2 : rightV [(nObj, 1)] = true := by kernel_rfl
  have hn : ∀ r ∈ o.rs, 0 ≤ r.2 ∧ r.2 ≤ 9223372036854775807 := fun r hr => ⟨(hall r hr).2, (hw.2.2.2.2.2 r hr).2.2⟩
  have hg1 : ∀ m, getV [(nObj, 1)] m = if m = nObj then 1 else 0 := fun m => by
    show (if nObj = m then (1 : Int) else 0) = _
    by_cases e : m = nObj
    · rw [if_pos e, if_pos e.symm]
    · rw [if_neg e, if_neg fun x => e x.symm]
  have hg0 : ∀ m, getV (ofV o.rs).1 m = sumN o.rs m := fun m => by rw [ho, g2]; show 0 + _ = _; omega
  obtain ⟨x, hx⟩ := (both_ex (less := false) q1 hr2).2 fun m => by
    have := sum_rng m hn
    refine inR_of ?_
    show inW (getV (ofV o.rs).1 m + getV [(nObj, 1)] m)
    rw [hg0, hg1]
    unfold inW
    split <;> omega
  have hc : combV false (ofV o.rs).1 [(nObj, 1)] = (x, 0) := by
    unfold combV
    rw [hr1, hr2, if_pos (show (true && true) = true from rfl), hx]
  obtain ⟨h1, -, h3⟩ := both_right hr1 hr2 hx
  have hl := wf_comb (less := false) q1 w_one.1 (by omega) (show [((nObj, 1) : Ent)].length ≤ 400 by decide)
  rw [hc] at hl
  obtain ⟨-, hfl⟩ := fold_wf o.rs [] 0 (fun r hr => ⟨(hw.2.2.2.2.2 r hr).1, hn r hr⟩) fun e he => by cases he
  refine ⟨x, hc, h1, hl.1, ?_, fun m => ?_⟩
  · have := hl.2
    rw [ho] at this
    simp only [List.length_cons, List.length_nil] at this hfl ⊢
    omega
  · rw [h3]
    show getV (ofV o.rs).1 m + getV [(nObj, 1)] m = _
    rw [hg0, hg1]

set_option maxHeartbeats 64000000 in
theorem more_ok (a b : Ob) (va vb : Value) (hra : numR a.rs) (hrb : numR b.rs) (w : World) (hva : ResAt w va a.rs) (hvb : ResAt w vb b.rs) :
    Calls Try.prog 4 #[OV a va, OV b vb] w fun e w' => e = .returned (.bool true) ∧ Below w.heap.size w w' := by
  obtain ⟨ar, cr, rfl, hat⟩ := OldRow.cells cellsR_len hva
  refine calls1 (args := [OV a (.slice ar a.rs.length cr), OV b vb]) Try.func4 rfl rfl rfl rfl ?_
  have f1 := fun w' (hb : Below w.heap.size w w') => fits_ok a _ w' (hva.below hb)
  have f2 := fun w' (hb : Below w.heap.size w w') => fits_ok b vb w' (hvb.below hb)
  cases ha : fitO a
  · rw [ha] at f1
    repeat' (first | refine aw_seq ?_ | refine zz ?_ | refine zon fun _ => ?_ | refine zoa fun vr lr hr => ?_ | ((first | apply ao_call | apply aq_call); exact wants_a; (first | exact oc_func rfl | exact oc_clos rfl rfl); (exact rfl); (first | exact fun w hw => f1 w hw.below | exact fun w hw => f2 w hw.below | exact fun w hw => alive_ok w)) | refine zoS (fun _ => ?_) (fun _ => ?_) | refine zqS (fun _ => ?_) (fun _ => ?_) | refine zwS (fun _ => ?_) (fun _ => ?_))
    exact fun w' hw => ⟨rfl, hw.below⟩
  cases hb : fitO b
  · rw [ha] at f1
    rw [hb] at f2
    repeat' (first | refine aw_seq ?_ | refine zz ?_ | refine zon fun _ => ?_ | refine zoa fun vr lr hr => ?_ | ((first | apply ao_call | apply aq_call); exact wants_a; (first | exact oc_func rfl | exact oc_clos rfl rfl); (exact rfl); (first | exact fun w hw => f1 w hw.below | exact fun w hw => f2 w hw.below | exact fun w hw => alive_ok w)) | refine zoS (fun _ => ?_) (fun _ => ?_) | refine zqS (fun _ => ?_) (fun _ => ?_) | refine zwS (fun _ => ?_) (fun _ => ?_))
    exact fun w' hw => ⟨rfl, hw.below⟩
  rw [ha] at f1
  rw [hb] at f2
  obtain ⟨w1, l1⟩ := fit_wf ha hra
  obtain ⟨w2, l2⟩ := fit_wf hb hrb
  have c1 := fun w' (hb : Below w.heap.size w w') => charge_ok a _ w1 w' (hva.below hb)
  have c2 := fun w' (hb : Below w.heap.size w w') => right_ok a _ w1 w' (hva.below hb)
  cases hr : rightO a
  · have hq : chargeO a = ([], 1) := by unfold chargeO; rw [hr]; rfl
    rw [hq] at c1
    rw [hr] at c2
    repeat' (first | refine aw_seq ?_ | refine zz ?_ | refine zon fun _ => ?_ | refine zoa fun vr lr hr => ?_ | ((first | apply ao_call | apply aq_call); exact wants_a; (first | exact oc_func rfl | exact oc_clos rfl rfl); (exact rfl); (first | exact fun w hw => f1 w hw.below | exact fun w hw => f2 w hw.below)) | (apply ao_callr2; exact wants_a; (exact oc_func rfl); (exact rfl); (first | exact fun w hw => c1 w hw.below); intro vr lr hr) | refine zoS (fun _ => ?_) (fun _ => ?_) | refine zqS (fun _ => ?_) (fun _ => ?_) | refine zwS (fun _ => ?_) (fun _ => ?_))
    revert vr lr hr
    intro v1 k1 r1
    obtain ⟨ax, cx, rfl⟩ := r1.len
    repeat' (first | refine aw_seq ?_ | refine zz ?_ | refine zon fun _ => ?_ | refine zoa fun vr lr hr => ?_ | ((first | apply ao_call | apply aq_call); exact wants_a; (first | exact oc_func rfl | exact oc_clos rfl rfl); (exact rfl); (first | exact fun w hw => c2 w hw.below | exact fun w hw => alive_ok w)) | refine zoS (fun _ => ?_) (fun _ => ?_) | refine zqS (fun _ => ?_) (fun _ => ?_) | refine zwS (fun _ => ?_) (fun _ => ?_))
    exact fun w' hw => ⟨rfl, hw.below⟩
  obtain ⟨x, hx, hxr, hxw, hxl, hxg⟩ := more w1 hr
  have hq : chargeO a = (x, 0) := by unfold chargeO; rw [hr]; exact hx
  rw [hq] at c1
  rw [hr] at c2
  have hxn := hxw.1
  have c3 := fun w' u (h : VecAt w' u x) => pright_ok u x hxw w' h
  rw [hxr] at c3
  obtain ⟨h16, hrise, hall⟩ := res_all (right_res hr)
  have hn : ∀ r ∈ a.rs, 0 ≤ r.2 ∧ r.2 ≤ 9223372036854775807 := fun r hm => ⟨(hall r hm).2, (hra r hm).2⟩
  clear hr
  repeat' (first | refine aw_seq ?_ | refine zz ?_ | refine zon fun _ => ?_ | refine zoa fun vr lr hr => ?_ | ((first | apply ao_call | apply aq_call); exact wants_a; (first | exact oc_func rfl | exact oc_clos rfl rfl); (exact rfl); (first | exact fun w hw => f1 w hw.below | exact fun w hw => f2 w hw.below)) | (apply ao_callr2; exact wants_a; (exact oc_func rfl); (exact rfl); (first | exact fun w hw => c1 w hw.below); intro vr lr hr) | refine zoS (fun _ => ?_) (fun _ => ?_) | refine zqS (fun _ => ?_) (fun _ => ?_) | refine zwS (fun _ => ?_) (fun _ => ?_))
  revert vr lr hr
  intro v1 k1 r1
  obtain ⟨ax, cx, rfl⟩ := r1.len
  simp only at r1 hxl ⊢
  repeat' (first | refine aw_seq ?_ | refine zz ?_ | refine zon fun _ => ?_ | refine zoa fun vr lr hr => ?_ | ((first | apply ao_call | apply aq_call); exact wants_a; (first | exact oc_func rfl | exact oc_clos rfl rfl); (exact rfl); (first | exact fun w hw => c2 w hw.below | (intro w hw; refine c3 w _ ?_; exact hw.oldr r1 cut_a))) | refine zoS (fun _ => ?_) (fun _ => ?_) | refine zqS (fun _ => ?_) (fun _ => ?_) | refine zwS (fun _ => ?_) (fun _ => ?_))
  refine aw_for (t0 := [(2, .pointer (some ⟨_, 0, none⟩)), (3, .pointer (some ⟨_, 0, none⟩)), (7, .slice ax x.length cx), (9, .pointer (some ⟨_, 0, none⟩)), (10, I (0 : Nat))]) (fun q t H => ∃ (ga gb g9 i : Nat) (N : Int), q = a.rs.length - i ∧ i ≤ a.rs.length ∧ N = 1 + sumN (a.rs.take i) nObj ∧ t = [(2, .pointer (some ⟨ga, 0, none⟩)), (3, .pointer (some ⟨gb, 0, none⟩)), (7, .slice ax x.length cx), (9, .pointer (some ⟨g9, 0, none⟩)), (10, I i)] ∧ H = (g9, .cells #[I (sHi N), .int .u64 (sLo N)] 40) :: (k1 ++ [(gb, .cells #[S b.k, S b.s, S b.n, I b.ver, S b.c, .bool b.tm, .bool b.bs, vb] 26), (ga, .cells #[S a.k, S a.s, S a.n, I a.ver, S a.c, .bool a.tm, .bool a.bs, .slice ar a.rs.length cr] 26)])) ⟨_, _, _, 0, 1, rfl, by omega, rfl, rfl, rfl⟩ (by repeat (first | exact sub_nil | refine sub_cons rfl ?_)) ?_
  rintro q t H ⟨ga, gb, g9, i, N, rfl, hi, hN, rfl, rfl⟩
  have hrng := sum_rng nObj (rs := a.rs.take i) fun r hm => hn r (List.mem_of_mem_take hm)
  have htl : (a.rs.take i).length ≤ 16 := by rw [List.length_take]; omega
  have hNW : inW N := by unfold inW; omega
  by_cases hlt : i < a.rs.length
  · obtain ⟨r, he⟩ := getI hlt
    obtain ⟨g, o, rfl, hg, hc⟩ := hat i r (i : Int) he rfl
    obtain ⟨c0, c4, -⟩ := res_cells hc
    have hmr := List.mem_of_getElem? he
    have hnr := hn r hmr
    have hrW : inW r.2 := by unfold inW; omega
    have hts : sumN (a.rs.take (i + 1)) nObj = sumN (a.rs.take i) nObj + ((if r.1 = nObj then r.2 else 0) + 0) := by rw [take_snoc he, sum_app]; rfl
    have hof := fun w => rofV r.2 (by omega) (by omega) w
    by_cases hm : r.1 = nObj
    · have hmm : (r.1 == nObj) = true := beq_iff_eq.2 hm
      rw [if_pos hm] at hts
      have hadd := fun w => raddV r.2 N hrW hNW w
      repeat' (first | refine aw_seq ?_ | refine zz ?_ | refine zon fun _ => ?_ | refine zoa fun vr lr hr => ?_ | ((first | apply ao_call | apply aq_call); exact wants_a; (first | exact oc_func rfl | exact oc_clos rfl rfl); (exact rfl); (first | exact fun w hw => hof w | exact fun w hw => hadd w)) | refine zoS (fun _ => ?_) (fun _ => ?_) | refine zqS (fun _ => ?_) (fun _ => ?_) | refine zwS (fun _ => ?_) (fun _ => ?_))
      exact lq_normal' ⟨ga, gb, g9, i + 1, r.2 + N, rfl, by omega, by omega, rfl, rfl⟩ (by omega) (by repeat (first | exact sub_nil | refine sub_cons rfl ?_)) hsub_a
    · have hmm : (r.1 == nObj) = false := beq_eq_false_iff_ne.2 hm
      rw [if_neg hm] at hts
      have hgr : getV x r.1 = r.2 := by rw [hxg, if_neg hm, sum_at hrise hmr]; omega
      have hget := fun w' u (h : VecAt w' u x) => pget_ok u x r.1 hxw w' h
      rw [hgr] at hget
      repeat' (first | refine aw_seq ?_ | refine zz ?_ | refine zon fun _ => ?_ | refine zoa fun vr lr hr => ?_ | ((first | apply ao_call | apply aq_call); exact wants_a; (first | exact oc_func rfl | exact oc_clos rfl rfl); (exact rfl); (first | exact fun w hw => hof w | (intro w hw; refine hget w _ ?_; exact hw.oldr r1 cut_a))) | refine zoS (fun _ => ?_) (fun _ => ?_) | refine zqS (fun _ => ?_) (fun _ => ?_) | refine zwS (fun _ => ?_) (fun _ => ?_))
      exact lq_normal' ⟨ga, gb, g9, i + 1, N, rfl, by omega, by omega, rfl, rfl⟩ (by omega) (by repeat (first | exact sub_nil | refine sub_cons rfl ?_)) hsub_a
  · obtain rfl : i = a.rs.length := by omega
    rw [List.take_length] at hN
    have hgo : getV x nObj = N := by rw [hxg, if_pos rfl]; omega
    have hget := fun w' u (h : VecAt w' u x) => pget_ok u x nObj hxw w' h
    rw [hgo] at hget
    have w3 : wfO ⟨b.k, b.s, b.n, b.ver, b.c, b.tm, b.bs, a.rs⟩ := ⟨w2.1, w2.2.1, w2.2.2.1, w2.2.2.2.1, w1.2.2.2.2⟩
    have c5 := fun w' (hb : Below w.heap.size w w') => charge_ok ⟨b.k, b.s, b.n, b.ver, b.c, b.tm, b.bs, a.rs⟩ _ w3 w' (hva.below hb)
    have c6 := fun w' (hb : Below w.heap.size w w') => right_ok ⟨b.k, b.s, b.n, b.ver, b.c, b.tm, b.bs, a.rs⟩ _ w3 w' (hva.below hb)
    unfold chargeO at c5
    cases hrb2 : rightO ⟨b.k, b.s, b.n, b.ver, b.c, b.tm, b.bs, a.rs⟩
    · rw [hrb2, if_neg (by decide)] at c5
      rw [hrb2] at c6
      repeat' (first | refine aw_seq ?_ | refine zz ?_ | refine zon fun _ => ?_ | refine zoa fun vr lr hr => ?_ | ((first | apply ao_call | apply aq_call); exact wants_a; (first | exact oc_func rfl | exact oc_clos rfl rfl); (exact rfl); (first | exact fun w hw => c6 w hw.below | (intro w hw; refine hget w _ ?_; exact hw.oldr r1 cut_a) | exact fun w hw => alive_ok w)) | (apply ao_callr2; exact wants_a; (exact oc_func rfl); (exact rfl); (first | exact fun w hw => c5 w hw.below); intro vr lr hr) | refine zoS (fun _ => ?_) (fun _ => ?_) | refine zqS (fun _ => ?_) (fun _ => ?_) | refine zwS (fun _ => ?_) (fun _ => ?_))
      exact fun w' hw => ⟨rfl, hw.below⟩
    · rw [hrb2, if_pos rfl] at c5
      simp only at c5
      rw [hx] at c5
      rw [hrb2] at c6
      have hs := fun w' v u (h1 : VecAt w' v x) (h2 : VecAt w' u x) => psame_ok v u x x hxw hxw w' h1 h2
      rw [beq_same] at hs
      repeat' (first | refine aw_seq ?_ | refine zz ?_ | refine zon fun _ => ?_ | refine zoa fun vr lr hr => ?_ | ((first | apply ao_call | apply aq_call); exact wants_a; (first | exact oc_func rfl | exact oc_clos rfl rfl); (exact rfl); (first | exact fun w hw => c6 w hw.below | (intro w hw; refine hget w _ ?_; exact hw.oldr r1 cut_a) | (intro w hw; refine hs w _ _ ?_ ?_; exact hw.oldr r1 cut_a; exact hw.oldr (by assumption) cut_a) | exact fun w hw => alive_ok w)) | (apply ao_callr2; exact wants_a; (exact oc_func rfl); (exact rfl); (first | exact fun w hw => c5 w hw.below); intro vr lr hr) | refine zoS (fun _ => ?_) (fun _ => ?_) | refine zqS (fun _ => ?_) (fun _ => ?_) | refine zwS (fun _ => ?_) (fun _ => ?_))
      exact fun w' hw => ⟨rfl, hw.below⟩
end Ojt
end Go.Proofs.Ythabchmfhfhcaaa
