/- Walks of layer 5: what is gone through; ObjectTells; conditions: none. -/
import Derived.Test.YthabchmfhfhcaaaOlaw
namespace Go.Proofs.Ythabchmfhfhcaaa
namespace Ojt
open Go Go.RowKit Sx Wid Lab Vec
attribute [local irreducible] Go.Calls

/-- Is it gone through? -/
def fitO (o : Ob) : Bool := decide (o.k.length ≤ 200 ∧ o.s.length ≤ 200 ∧ o.n.length ≤ 200 ∧ o.c.length ≤ 200 ∧ o.rs.length ≤ 40 ∧ ∀ r ∈ o.rs, r.1.length ≤ 200)
def numR (rs : List Ent) : Prop := ∀ r ∈ rs, -9223372036854775808 ≤ r.2 ∧ r.2 ≤ 9223372036854775807
theorem fit_wf {o : Ob} (h : fitO o = true) (hr : numR o.rs) : wfO o ∧ o.rs.length ≤ 40 := by
  unfold fitO at h
  obtain ⟨h1, h2, h3, h4, h5, h6⟩ := of_decide_eq_true h
  exact ⟨⟨by omega, by omega, by omega, by omega, by omega, fun r hm => ⟨by have := h6 r hm; omega, hr r hm⟩⟩, h5⟩

set_option maxHeartbeats 8000000 in
theorem fits_ok (o : Ob) (v : Value) (w : World) (hv : ResAt w v o.rs) : Calls Try.prog 5 #[OV o v] w fun e w' => e = .returned (.bool (fitO o)) ∧ Below w.heap.size w w' := by
  obtain ⟨k, s, n, ver, c, tm, bs, rs⟩ := o
  simp only at hv
  obtain ⟨a, cp, rfl, hat⟩ := OldRow.cells cellsR_len hv
  refine calls1 (args := [OC k s n ver c tm bs (.slice a rs.length cp)]) Try.func5 rfl rfl rfl rfl ?_
  have hno : ¬ (k.length ≤ 200 ∧ s.length ≤ 200 ∧ n.length ≤ 200 ∧ c.length ≤ 200 ∧ rs.length ≤ 40 ∧ ∀ r ∈ rs, r.1.length ≤ 200) → fitO ⟨k, s, n, ver, c, tm, bs, rs⟩ = false := fun h => decide_eq_false h
  by_cases h1 : k.length ≤ 200
  · by_cases h2 : s.length ≤ 200
    · by_cases h3 : n.length ≤ 200
      · by_cases h4 : c.length ≤ 200
        · by_cases h5 : rs.length ≤ 40
          · repeat' (first | refine aw_seq ?_ | refine zz ?_ | refine zon fun _ => ?_ | refine zoa fun vr lr hr => ?_ | refine zoS (fun _ => ?_) (fun _ => ?_) | refine zqS (fun _ => ?_) (fun _ => ?_) | refine zwS (fun _ => ?_) (fun _ => ?_))
            refine aw_for (t0 := [(1, .pointer (some ⟨_, 0, none⟩)), (3, I (0 : Nat))]) (fun q t H => ∃ (gb i : Nat), q = rs.length - i ∧ i ≤ rs.length ∧ (∀ (j : Nat) (r : Ent), j < i → rs[j]? = some r → r.1.length ≤ 200) ∧ t = [(1, .pointer (some ⟨gb, 0, none⟩)), (3, I i)] ∧ H = [(gb, .cells #[S k, S s, S n, I ver, S c, .bool tm, .bool bs, .slice a rs.length cp] 26)]) ⟨_, 0, rfl, by omega, fun j r h => by omega, rfl, rfl⟩ (by repeat (first | exact sub_nil | refine sub_cons rfl ?_)) ?_
            rintro q t H ⟨gb, i, rfl, hi, hall, rfl, rfl⟩
            by_cases hlt : i < rs.length
            · obtain ⟨r, he⟩ := getI hlt
              obtain ⟨g, o, rfl, hg, hc⟩ := hat i r (i : Int) he rfl
              obtain ⟨c0, -, -⟩ := res_cells hc
              by_cases h6 : r.1.length ≤ 200
              · repeat' (first | refine aw_seq ?_ | refine zz ?_ | refine zon fun _ => ?_ | refine zoa fun vr lr hr => ?_ | refine zoS (fun _ => ?_) (fun _ => ?_) | refine zqS (fun _ => ?_) (fun _ => ?_) | refine zwS (fun _ => ?_) (fun _ => ?_))
                exact lq_normal' ⟨gb, i + 1, rfl, by omega, fun j x hj hx2 => by
                  by_cases e1 : j = i
                  · subst e1; rw [he] at hx2; cases hx2; exact h6
                  · exact hall j x (by omega) hx2, rfl, rfl⟩ (by omega) (by repeat (first | exact sub_nil | refine sub_cons rfl ?_)) hsub_a
              · rw [hno fun h => h6 (h.2.2.2.2.2 r (List.mem_of_getElem? he))]
                repeat' (first | refine aw_seq ?_ | refine zz ?_ | refine zon fun _ => ?_ | refine zoa fun vr lr hr => ?_ | refine zoS (fun _ => ?_) (fun _ => ?_) | refine zqS (fun _ => ?_) (fun _ => ?_) | refine zwS (fun _ => ?_) (fun _ => ?_))
                exact fun w' hw => ⟨rfl, hw.below⟩
            · obtain rfl : i = rs.length := by omega
              have hq : fitO ⟨k, s, n, ver, c, tm, bs, rs⟩ = true := decide_eq_true ⟨h1, h2, h3, h4, h5, fun r hm => by
                obtain ⟨j, hj⟩ := List.getElem?_of_mem hm
                exact hall j r (List.getElem?_eq_some_iff.1 hj).1 hj⟩
              rw [hq]
              repeat' (first | refine aw_seq ?_ | refine zz ?_ | refine zon fun _ => ?_ | refine zoa fun vr lr hr => ?_ | refine zoS (fun _ => ?_) (fun _ => ?_) | refine zqS (fun _ => ?_) (fun _ => ?_) | refine zwS (fun _ => ?_) (fun _ => ?_))
              exact fun w' hw => ⟨rfl, hw.below⟩
          · rw [hno fun h => h5 h.2.2.2.2.1]
            repeat' (first | refine aw_seq ?_ | refine zz ?_ | refine zon fun _ => ?_ | refine zoa fun vr lr hr => ?_ | refine zoS (fun _ => ?_) (fun _ => ?_) | refine zqS (fun _ => ?_) (fun _ => ?_) | refine zwS (fun _ => ?_) (fun _ => ?_))
            exact fun w' hw => ⟨rfl, hw.below⟩
        · rw [hno fun h => h4 h.2.2.2.1]
          repeat' (first | refine aw_seq ?_ | refine zz ?_ | refine zon fun _ => ?_ | refine zoa fun vr lr hr => ?_ | refine zoS (fun _ => ?_) (fun _ => ?_) | refine zqS (fun _ => ?_) (fun _ => ?_) | refine zwS (fun _ => ?_) (fun _ => ?_))
          exact fun w' hw => ⟨rfl, hw.below⟩
      · rw [hno fun h => h3 h.2.2.1]
        repeat' (first | refine aw_seq ?_ | refine zz ?_ | refine zon fun _ => ?_ | refine zoa fun vr lr hr => ?_ | refine zoS (fun _ => ?_) (fun _ => ?_) | refine zqS (fun _ => ?_) (fun _ => ?_) | refine zwS (fun _ => ?_) (fun _ => ?_))
        exact fun w' hw => ⟨rfl, hw.below⟩
    · rw [hno fun h => h2 h.2.1]
      repeat' (first | refine aw_seq ?_ | refine zz ?_ | refine zon fun _ => ?_ | refine zoa fun vr lr hr => ?_ | refine zoS (fun _ => ?_) (fun _ => ?_) | refine zqS (fun _ => ?_) (fun _ => ?_) | refine zwS (fun _ => ?_) (fun _ => ?_))
      exact fun w' hw => ⟨rfl, hw.below⟩
  · rw [hno fun h => h1 h.1]
    repeat' (first | refine aw_seq ?_ | refine zz ?_ | refine zon fun _ => ?_ | refine zoa fun vr lr hr => ?_ | refine zoS (fun _ => ?_) (fun _ => ?_) | refine zqS (fun _ => ?_) (fun _ => ?_) | refine zwS (fun _ => ?_) (fun _ => ?_))
    exact fun w' hw => ⟨rfl, hw.below⟩

theorem charge_wf {o : Ob} (hw : wfO o) : wfV (chargeO o).1 ∧ (chargeO o).1.length ≤ (ofV o.rs).1.length + 1 := by
  obtain ⟨q1, q2⟩ := of_wf hw.2.2.2.2
  unfold chargeO
  split
  · exact wf_comb q1 w_one.1 (by omega) (by decide)
  · exact ⟨⟨by simp, fun e he => by simp at he⟩, by simp⟩
theorem same_self (o : Ob) : sameO o o = true := by simp [sameO, alikeO]

set_option maxHeartbeats 32000000 in
theorem tells_ok (a b : Ob) (va vb : Value) (hra : numR a.rs) (hrb : numR b.rs) (w : World) (hva : ResAt w va a.rs) (hvb : ResAt w vb b.rs) :
    Calls Try.prog 3 #[OV a va, OV b vb] w fun e w' => e = .returned (.bool true) ∧ Below w.heap.size w w' := by
  refine calls1 (args := [OV a va, OV b vb]) Try.func3 rfl rfl rfl rfl ?_
  have f1 := fun w' (hb : Below w.heap.size w w') => fits_ok a va w' (hva.below hb)
  have f2 := fun w' (hb : Below w.heap.size w w') => fits_ok b vb w' (hvb.below hb)
  cases ha : fitO a
  · rw [ha] at f1
    repeat' (first | refine aw_seq ?_ | refine zz ?_ | refine zon fun _ => ?_ | refine zoa fun vr lr hr => ?_ | ((first | apply ao_call | apply aq_call); exact wants_a; (first | exact oc_func rfl | exact oc_clos rfl rfl); (exact rfl); (first | exact fun w hw => f1 w hw.below | exact fun w hw => f2 w hw.below | exact fun w hw => alive_ok w)) | refine zoS (fun _ => ?_) (fun _ => ?_) | refine zqS (fun _ => ?_) (fun _ => ?_) | refine zwS (fun _ => ?_) (fun _ => ?_))
    exact fun w' hw => ⟨rfl, hw.below⟩
  cases hb : fitO b
  · rw [ha] at f1
    rw [hb] at f2
    repeat' (first | refine aw_seq ?_ | refine zz ?_ | refine zon fun _ => ?_ | refine zoa fun vr lr hr => ?_ | ((first | apply ao_call | apply aq_call); exact wants_a; (first | exact oc_func rfl | exact oc_clos rfl rfl); (exact rfl); (first | exact fun w hw => f1 w hw.below | exact fun w hw => f2 w hw.below | exact fun w hw => alive_ok w)) | refine zoS (fun _ => ?_) (fun _ => ?_) | refine zqS (fun _ => ?_) (fun _ => ?_) | refine zwS (fun _ => ?_) (fun _ => ?_))
    exact fun w' hw => ⟨rfl, hw.below⟩
  rw [ha] at f1
  rw [hb] at f2
  obtain ⟨w1, l1⟩ := fit_wf ha hra
  obtain ⟨w2, l2⟩ := fit_wf hb hrb
  obtain ⟨w3, -⟩ := charge_wf w1
  have c1 := fun w' (hb : Below w.heap.size w w') => charge_ok a va w1 w' (hva.below hb)
  have c2 := fun w' (hb : Below w.heap.size w w') => rcharge_ok a va w1 w' (hva.below hb)
  have c3 := fun w' (hb : Below w.heap.size w w') => own_ok a va w1 w' (hva.below hb)
  have c4 := fun u w' (hb : Below w.heap.size w w') (hu : ResAt w' u a.rs) => rsame_ok a a u va w1 w1 w' hu (hva.below hb)
  have c5 := fun w' (hb : Below w.heap.size w w') => right_ok a va w1 w' (hva.below hb)
  have c6 := fun w' (hb : Below w.heap.size w w') => rright_ok a va w1 w' (hva.below hb)
  have c7 := fun w' (hb : Below w.heap.size w w') => same_ok a b va vb w1 w2 w' (hva.below hb) (hvb.below hb)
  have c8 := fun w' (hb : Below w.heap.size w w') => rsame_ok a b va vb w1 w2 w' (hva.below hb) (hvb.below hb)
  have c9 := fun w' (hb : Below w.heap.size w w') => alike_ok a b va vb w1 w2 w' (hva.below hb) (hvb.below hb)
  have c10 := fun w' (hb : Below w.heap.size w w') => ralike_ok a b va vb w1 w2 w' (hva.below hb) (hvb.below hb)
  rw [same_self] at c4
  generalize (chargeO a).2 = e1 at c1 c2
  generalize (chargeO a).1 = x1 at c1 c2 w3
  generalize rightO a = b1 at c5 c6
  generalize sameO a b = b2 at c7 c8
  generalize alikeO a b = b3 at c9 c10
  have s3 := fun w' v u (h1 : VecAt w' v x1) (h2 : VecAt w' u x1) => vsame_ok v u x1 x1 w3 w3 w' h1 h2
  rw [beq_same] at s3
  have q1 : (e1 == e1) = true := beq_same _
  have q2 : (b1 == b1) = true := beq_same _
  have q3 : (b2 == b2) = true := beq_same _
  repeat' (first | refine aw_seq ?_ | refine zz ?_ | refine zon fun _ => ?_ | refine zoa fun vr lr hr => ?_ | ((first | apply ao_call | apply aq_call); exact wants_a; (first | exact oc_func rfl | exact oc_clos rfl rfl); (exact rfl); (first | exact fun w hw => f1 w hw.below | exact fun w hw => f2 w hw.below)) | (apply ao_callr2; exact wants_a; (exact oc_func rfl); (exact rfl); (first | exact fun w hw => c1 w hw.below); intro vr lr hr) | refine zoS (fun _ => ?_) (fun _ => ?_) | refine zqS (fun _ => ?_) (fun _ => ?_) | refine zwS (fun _ => ?_) (fun _ => ?_))
  revert vr lr hr
  intro v1 k1 r1
  repeat' (first | (apply ao_nilh; exact hsub_a) | apply ao_nil | apply aq_nil | apply ah_end | ((first | apply ao_val | apply aq_val | (apply ah_take; (exact rfl))); exact wants_a; exact ov_a; (exact rfl)) | ((first | apply ao_skip | apply aq_skip | (apply ah_skip; (exact rfl))); exact nots_a; (exact rfl)) | (refine ao_is ?_; first | (apply ao_new; exact wants_a; exact on_a; (exact rfl); intro _) | (apply ao_store; exact wants_a; exact ow_a; exact upd_a) | (apply ao_valw; exact wants_a; exact ox_a; (exact rfl); exact upd_a) | (apply ao_skip0; exact nots_a) | (apply ao_append; exact wants_a; (exact rfl); assumption; (exact rfl); exact cut_a; exact has_a; (exact rfl); (exact rfl); omega; omega; omega; (exact rfl); intro vr lr hr)) | ((first | apply ao_call | apply aq_call); exact wants_a; (first | exact oc_func rfl | exact oc_clos rfl rfl); (exact rfl); (first | (intro w hw; refine s3 w _ _ ?_ ?_; exact hw.oldr r1 cut_a; exact hw.oldr (by assumption) cut_a) | (intro w hw; refine c4 _ w hw.below ?_; exact hw.oldr (by assumption) cut_a) | exact fun w hw => alive_ok w | exact fun w hw => c5 w hw.below | exact fun w hw => c6 w hw.below | exact fun w hw => c7 w hw.below | exact fun w hw => c8 w hw.below | exact fun w hw => c9 w hw.below | exact fun w hw => c10 w hw.below)) | (apply ao_callr2; exact wants_a; (exact oc_func rfl); (exact rfl); (first | exact fun w hw => c2 w hw.below); intro vr lr hr) | (apply ao_callrg; exact wants_a; (exact oc_func rfl); (exact rfl); (first | exact fun w hw => c3 w hw.below); intro vr lr hr) | (apply ah_one; (exact rfl)) | (apply ah_two; (exact rfl); (exact rfl)) | (apply ah_three; (exact rfl); (exact rfl); (exact rfl)) | (refine aw_is ?_; first | (apply aw_held (id := 8) (pl := (.t 0 (.t 2 (.o 1 (.o 3 (.t 4 .e)))))); (kernel_rfl); (kernel_rfl); (kernel_rfl); (solve | (exact List.Sublist.refl _))) | refine aw_seq ?_ | refine aw_block ?_ | refine aw_region ?_ | refine aw_skip ?_ | refine aw_exit ?_ | refine aw_ret ?_ | refine aw_label ?_ | refine aw_scope ?_ | refine aw_cond_t rfl (by with_reducible rfl) ?_ | refine aw_cond_f rfl (by with_reducible rfl) ?_ | refine aw_draw (by kernel_rfl) (by kernel_rfl) ?_) | (first | (refine ah_is ?_; (fail_if_success first | refine ah_glit (b := true) rfl rfl rfl (by with_reducible rfl) ?_ | refine ah_glit (b := false) rfl rfl rfl (by with_reducible rfl) ?_); apply ah_gt; (exact rfl); (exact rfl); (exact rfl); exact t_a) | ((refine ao_is ?_; (fail_if_success first | refine ao_glit (b := true) rfl rfl (by with_reducible rfl) ?_ | refine ao_glit (b := false) rfl rfl (by with_reducible rfl) ?_)); apply ao_gt; (exact rfl); (exact rfl); exact t_a) | ((refine aq_is ?_; (fail_if_success first | refine aq_glit (b := true) rfl rfl (by with_reducible rfl) ?_ | refine aq_glit (b := false) rfl rfl (by with_reducible rfl) ?_)); apply aq_gt; (exact rfl); (exact rfl); exact t_a) | (apply aw_ct; (exact rfl); exact t_a)) | (first | (refine ah_is ?_; (fail_if_success first | refine ah_glit (b := true) rfl rfl rfl (by with_reducible rfl) ?_ | refine ah_glit (b := false) rfl rfl rfl (by with_reducible rfl) ?_); apply ah_gf; (exact rfl); (exact rfl); (exact rfl); exact f_a) | ((refine ao_is ?_; (fail_if_success first | refine ao_glit (b := true) rfl rfl (by with_reducible rfl) ?_ | refine ao_glit (b := false) rfl rfl (by with_reducible rfl) ?_)); apply ao_gf; (exact rfl); (exact rfl); exact f_a) | ((refine aq_is ?_; (fail_if_success first | refine aq_glit (b := true) rfl rfl (by with_reducible rfl) ?_ | refine aq_glit (b := false) rfl rfl (by with_reducible rfl) ?_)); apply aq_gf; (exact rfl); (exact rfl); exact f_a) | (apply aw_cf; (exact rfl); exact f_a)) | refine at_normal ?_ | refine at_exit ?_ | refine at_ret ?_ | refine ib_normal ?_ | refine ib_exit ?_ | refine ib_other ?_ | refine ib_ret ?_ | refine lq_exit ?_ | refine lq_ret ?_ | refine ci_ret ?_ | refine ci_exit ?_ | refine r1_ret rfl ?_ | refine r1_normal rfl ?_ | refine r2_ret rfl rfl ?_ | refine r2_normal rfl rfl ?_ | refine r3_ret rfl rfl rfl ?_ | refine r3_normal rfl rfl rfl ?_ | refine ng_normal ?_ | refine ng_exit ?_ | refine ng_ret ?_ | (apply rt_ret; (exact rfl); (exact rfl); (exact rfl); exact has_a; exact has_a; (exact rfl); (exact rfl)) | (apply rc1_ret; (exact rfl); exact has_a; (exact rfl)) | (apply rc2_ret; (exact rfl); exact has_a; (exact rfl); (exact rfl)) | (refine ao_is ?_; (fail_if_success first | refine ao_glit (b := true) rfl rfl (by with_reducible rfl) ?_ | refine ao_glit (b := false) rfl rfl (by with_reducible rfl) ?_); refine ao_gbool rfl rfl (fun _ => ?_) (fun _ => ?_)) | (refine aq_is ?_; (fail_if_success first | refine aq_glit (b := true) rfl rfl (by with_reducible rfl) ?_ | refine aq_glit (b := false) rfl rfl (by with_reducible rfl) ?_); refine aq_gbool rfl rfl (fun _ => ?_) (fun _ => ?_)) | (refine aw_is ?_; refine aw_cond rfl (fun _ => ?_) (fun _ => ?_)))
  exact fun w' hw => ⟨by rw [beq_same], hw.below⟩
end Ojt
end Go.Proofs.Ythabchmfhfhcaaa
