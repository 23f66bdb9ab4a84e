/- Walk of layer 4: VectorMakes; conditions: the quantities' table as it was laid. -/
import Derived.Test.YteclgkemggmabaaDoorVlawt
namespace Go.Proofs.YteclgkemggmabaaDoor
namespace Vec
open Go Go.RowKit Sx Wid Lab
attribute [local irreducible] Go.Calls

theorem fold_wf : ∀ (rs outs : List Ent) (B : Nat), (∀ r ∈ rs, r.1.length ≤ 100000 ∧ 0 ≤ r.2 ∧ r.2 ≤ 9223372036854775807) → (∀ e ∈ outs, e.1.length ≤ 100000 ∧ 0 ≤ e.2 ∧ e.2 ≤ (B : Int) * 9223372036854775807) →
    (∀ e ∈ rs.foldl addR outs, e.1.length ≤ 100000 ∧ 0 ≤ e.2 ∧ e.2 ≤ ((B + rs.length : Nat) : Int) * 9223372036854775807) ∧ (rs.foldl addR outs).length ≤ outs.length + rs.length
  | [], outs, B, _, h => ⟨by simpa using h, by simp⟩
  | r :: rs, outs, B, h1, h2 => by
    have hr := h1 r List.mem_cons_self
    obtain ⟨-, h4⟩ := add_rng (v := outs) (r := r) (B := (B : Int) * 9223372036854775807) (fun e he => (h2 e he).2) hr.2 (by omega)
    have hn : ∀ e ∈ addR outs r, e.1.length ≤ 100000 := fun e he => by
      rcases put_mem he with ⟨rfl, -⟩ | he
      · exact hr.1
      · exact (h2 e he).1
    have hp := (put_len (nm := r.1) (n := getV outs r.1 + r.2) outs (getV outs r.1 + r.2 == 0)).1
    have hp' : (addR outs r).length ≤ outs.length + 1 := hp
    obtain ⟨i1, i2⟩ := fold_wf rs (addR outs r) (B + 1) (fun x hx => h1 x (List.mem_cons_of_mem _ hx)) fun e he => ⟨hn e he, (h4 e he).1, by have := (h4 e he).2; omega⟩
    rw [List.foldl_cons]
    refine ⟨fun e he => ?_, by simp only [List.length_cons]; omega⟩
    have := i1 e he
    simp only [List.length_cons]
    rw [show B + (rs.length + 1) = B + 1 + rs.length by omega]
    exact this
theorem of_wf {rs : List Ent} (hw : wfR rs) : wfV (ofV rs).1 ∧ (ofV rs).1.length ≤ 16 := by
  have nil : wfV [] ∧ ([] : List Ent).length ≤ 16 := ⟨⟨by simp, fun e he => by simp at he⟩, by simp⟩
  unfold ofV
  split
  · rename_i hall
    split
    · rename_i h16
      rw [List.all_eq_true] at hall
      obtain ⟨h1, h2⟩ := fold_wf rs [] 0 (fun r hr => by
        have h3 := hw.2 r hr
        have h4 := hall r hr
        simp only [okR, Bool.and_eq_true, decide_eq_true_eq] at h4
        exact ⟨h3.1, h4.2, h3.2.2⟩) fun e he => by simp at he
      simp only [List.length_nil, Nat.zero_add] at h1 h2
      refine ⟨⟨by simp only; omega, fun e he => ⟨(h1 e he).1, ?_⟩⟩, by simp only; omega⟩
      have := h1 e he
      unfold inW
      omega
    · exact nil
  · exact nil
theorem parse_wf : ∀ (n : Nat) (outs : List Ent) (l : List UInt8), l.length ≤ 100000 → outs.length ≤ 16 → (∀ r ∈ outs, r.1.length ≤ 100000 ∧ -9223372036854775808 ≤ r.2 ∧ r.2 ≤ 9223372036854775807) →
    (parseL n outs l).1.length ≤ 16 ∧ ∀ r ∈ (parseL n outs l).1, r.1.length ≤ 100000 ∧ -9223372036854775808 ≤ r.2 ∧ r.2 ≤ 9223372036854775807
  | 0, outs, l, _, _, _ => ⟨by simp [parseL], fun r hr => by simp [parseL] at hr⟩
  | n + 1, outs, l, hl, ho, hw => by
    have hstep : parseL (n + 1) outs l = if badP outs l = true then ([], 2) else if (parQ (txP l)).2 ≠ 0 then ([], (parQ (txP l)).2)
      else if nx 44 l = l.length then (outs ++ [(nmP l, (parQ (txP l)).1)], 0) else parseL n (outs ++ [(nmP l, (parQ (txP l)).1)]) (l.drop (nx 44 l + 1)) := rfl
    have nil : ([] : List Ent).length ≤ 16 ∧ ∀ r ∈ ([] : List Ent), r.1.length ≤ 100000 ∧ -9223372036854775808 ≤ r.2 ∧ r.2 ≤ 9223372036854775807 := ⟨by simp, fun r hr => by simp at hr⟩
    rw [hstep]
    cases hb : badP outs l
    · rw [if_neg (by decide)]
      have h16 : outs.length ≠ 16 := fun h => by
        unfold badP at hb
        rw [show (outs.length == 16) = true from beq_iff_eq.2 h] at hb
        simp at hb
      by_cases hz : (parQ (txP l)).2 ≠ 0
      · rw [if_pos hz]; exact nil
      · rw [if_neg hz]
        obtain ⟨q0, q1, -⟩ := parQ_rng (txP l)
        have hnl : (nmP l).length ≤ 100000 := by
          unfold nmP partP
          rw [List.length_take, List.length_take]
          omega
        have hw2 : ∀ r ∈ outs ++ [(nmP l, (parQ (txP l)).1)], r.1.length ≤ 100000 ∧ -9223372036854775808 ≤ r.2 ∧ r.2 ≤ 9223372036854775807 := fun r hr => by
          rcases List.mem_append.1 hr with hr | hr
          · exact hw r hr
          · obtain rfl : r = (nmP l, (parQ (txP l)).1) := by simpa using hr
            exact ⟨hnl, by show -9223372036854775808 ≤ (parQ (txP l)).1; omega, q1⟩
        have hl2 : (outs ++ [(nmP l, (parQ (txP l)).1)]).length ≤ 16 := by simp; omega
        split
        · exact ⟨hl2, hw2⟩
        · exact parse_wf n _ _ (by rw [List.length_drop]; omega) hl2 hw2
    · rw [if_pos rfl]; exact nil
theorem parseV_wf {l : List UInt8} (hl : l.length ≤ 100000) : wfR (parseV l).1 := by
  unfold parseV
  split
  · exact ⟨by simp, fun r hr => by simp at hr⟩
  · obtain ⟨h1, h2⟩ := parse_wf (l.length + 1) [] l hl (by simp) fun r hr => by simp at hr
    exact ⟨by omega, h2⟩

set_option maxHeartbeats 16000000 in
theorem makes_ok (v : Value) (rs : List Ent) (l : Nm) (hr : ∀ r ∈ rs, -9223372036854775808 ≤ r.2 ∧ r.2 ≤ 9223372036854775807) (w : World) (hG : Qty.GlS w) (hv : ResAt w v rs) :
    Calls Tryd.prog 4 #[v, S l] w fun e w' => e = .returned (.bool true) ∧ Below w.heap.size w w' := by
  obtain ⟨a, c, rfl, hat⟩ := OldRow.cells cellsR_len hv
  refine calls1 (args := [.slice a rs.length c, S l]) Tryd.func4 rfl rfl rfl rfl ?_
  by_cases h40 : rs.length ≤ 40
  · by_cases h6 : l.length ≤ 600
    · repeat' (first | refine ao_nil ?_ | refine aq_nil ?_ | refine zov ?_ | refine zqv ?_ | refine zok ?_ | refine zqk ?_ | refine zon fun _ => ?_ | refine zow ?_ | refine zox ?_ | refine zoz ?_ | refine zoa fun vr lr hr => ?_ | (refine aw_is ?_; first | refine aw_seq ?_ | refine aw_block ?_ | refine aw_region ?_ | refine aw_skip ?_ | refine aw_exit ?_ | refine aw_ret ?_ | refine aw_label ?_ | refine aw_scope ?_ | refine zwt ?_ | refine zwf ?_ | refine zwd ?_) | refine zoT ?_ | refine zqT ?_ | refine zwT ?_ | refine zoF ?_ | refine zqF ?_ | refine zwF ?_ | refine zp ?_ | refine ib_exit ?_ | refine ib_other ?_ | refine zr1 ?_ | refine zr2 ?_ | refine zr3 ?_ | refine zrt ?_ | refine zrc ?_ | refine zrd ?_ | refine zoS (fun _ => ?_) (fun _ => ?_) | refine zqS (fun _ => ?_) (fun _ => ?_) | refine zwS (fun _ => ?_) (fun _ => ?_))
      refine aw_for (t0 := [(0, .slice a rs.length c), (1, S l), (5, I (0 : Nat))]) (fun q t H => ∃ (i : Nat), q = rs.length - i ∧ i ≤ rs.length ∧ (∀ (j : Nat) (r : Ent), j < i → rs[j]? = some r → r.1.length ≤ 600) ∧ t = [(0, .slice a rs.length c), (1, S l), (5, I i)] ∧ H = []) ⟨0, rfl, by omega, fun j r h => by omega, rfl, rfl⟩ (by repeat (first | exact sub_nil | refine sub_cons rfl ?_)) ?_
      rintro q t H ⟨i, rfl, hi, hall, rfl, rfl⟩
      by_cases hlt : i < rs.length
      · obtain ⟨r, he⟩ := getI hlt
        obtain ⟨g, o, rfl, hg, hc⟩ := hat i r (i : Int) he rfl
        obtain ⟨c0, -, -⟩ := res_cells hc
        by_cases hrl : r.1.length ≤ 600
        · repeat' (first | refine ao_nil ?_ | refine aq_nil ?_ | refine zov ?_ | refine zqv ?_ | refine zok ?_ | refine zqk ?_ | refine zon fun _ => ?_ | refine zow ?_ | refine zox ?_ | refine zoz ?_ | refine zoa fun vr lr hr => ?_ | (refine aw_is ?_; first | refine aw_seq ?_ | refine aw_block ?_ | refine aw_region ?_ | refine aw_skip ?_ | refine aw_exit ?_ | refine aw_ret ?_ | refine aw_label ?_ | refine aw_scope ?_ | refine zwt ?_ | refine zwf ?_ | refine zwd ?_) | refine zoT ?_ | refine zqT ?_ | refine zwT ?_ | refine zoF ?_ | refine zqF ?_ | refine zwF ?_ | refine zp ?_ | refine ib_exit ?_ | refine ib_other ?_ | refine zr1 ?_ | refine zr2 ?_ | refine zr3 ?_ | refine zrt ?_ | refine zrc ?_ | refine zrd ?_ | refine zoS (fun _ => ?_) (fun _ => ?_) | refine zqS (fun _ => ?_) (fun _ => ?_) | refine zwS (fun _ => ?_) (fun _ => ?_))
          exact lq_normal ⟨i + 1, rfl, by omega, fun j x hj hx2 => by
            by_cases e1 : j = i
            · subst e1; rw [he] at hx2; cases hx2; exact hrl
            · exact hall j x (by omega) hx2, rfl, rfl⟩ (by omega) (by repeat (first | exact sub_nil | refine sub_cons rfl ?_))
        · repeat' (first | refine ao_nil ?_ | refine aq_nil ?_ | refine zov ?_ | refine zqv ?_ | refine zok ?_ | refine zqk ?_ | refine zon fun _ => ?_ | refine zow ?_ | refine zox ?_ | refine zoz ?_ | refine zoa fun vr lr hr => ?_ | ((first | apply ao_call | apply aq_call); exact wants_a; (first | exact oc_func rfl | exact oc_clos rfl rfl); (exact rfl); (first | exact fun w hw => alive_ok w (hG.below hw.below))) | (refine aw_is ?_; first | refine aw_seq ?_ | refine aw_block ?_ | refine aw_region ?_ | refine aw_skip ?_ | refine aw_exit ?_ | refine aw_ret ?_ | refine aw_label ?_ | refine aw_scope ?_ | refine zwt ?_ | refine zwf ?_ | refine zwd ?_) | refine zoT ?_ | refine zqT ?_ | refine zwT ?_ | refine zoF ?_ | refine zqF ?_ | refine zwF ?_ | refine zp ?_ | refine ib_exit ?_ | refine ib_other ?_ | refine zr1 ?_ | refine zr2 ?_ | refine zr3 ?_ | refine zrt ?_ | refine zrc ?_ | refine zrd ?_ | refine zoS (fun _ => ?_) (fun _ => ?_) | refine zqS (fun _ => ?_) (fun _ => ?_) | refine zwS (fun _ => ?_) (fun _ => ?_))
          exact fun w' hw => ⟨rfl, hw.below⟩
      · obtain rfl : i = rs.length := by omega
        have hwf : wfR rs := ⟨by omega, fun r hm => by
          obtain ⟨j, hj⟩ := List.getElem?_of_mem hm
          have := hall j r (List.getElem?_eq_some_iff.1 hj).1 hj
          exact ⟨by omega, hr r hm⟩⟩
        obtain ⟨w1, l1⟩ := of_wf hwf
        have w2 := parseV_wf (l := l) (by omega)
        have c1 := fun w' (hb : Below w.heap.size w w') => pof_ok _ rs hwf w' (hv.below hb)
        have c2 := fun w' (hb : Below w.heap.size w w') => vof_ok _ rs hwf w' (hv.below hb)
        have c3 := fun w' (hb : Below w.heap.size w w') => vparse_ok l (by omega) w' (hG.below hb)
        have c4 := fun w' => vrparse_ok l (by omega) w'
        generalize (ofV rs).2 = e1 at c1 c2
        generalize (parseV l).2 = e2 at c3 c4
        generalize (ofV rs).1 = x1 at c1 c2 w1
        generalize (parseV l).1 = x2 at c3 c4 w2
        have s3 := fun w' v u (h1 : VecAt w' v x1) (h2 : VecAt w' u x1) => vsame_ok v u x1 x1 w1 w1 w' h1 h2
        have s4 := fun w' v u (h1 : ResAt w' v x2) (h2 : ResAt w' u x2) => vresources_ok v u x2 x2 w2 w2 w' h1 h2
        rw [beq_same] at s3 s4
        have q1 : (e1 == e1) = true := beq_same _
        have q2 : (e2 == e2) = true := beq_same _
        repeat' (first | refine ao_nil ?_ | refine aq_nil ?_ | refine zov ?_ | refine zqv ?_ | refine zok ?_ | refine zqk ?_ | refine zon fun _ => ?_ | refine zow ?_ | refine zox ?_ | refine zoz ?_ | refine zoa fun vr lr hr => ?_ | (apply ao_callr2; exact wants_a; (exact oc_func rfl); (exact rfl); (first | exact fun w hw => c1 w hw.below); intro vr lr hr) | (refine aw_is ?_; first | refine aw_seq ?_ | refine aw_block ?_ | refine aw_region ?_ | refine aw_skip ?_ | refine aw_exit ?_ | refine aw_ret ?_ | refine aw_label ?_ | refine aw_scope ?_ | refine zwt ?_ | refine zwf ?_ | refine zwd ?_) | refine zoT ?_ | refine zqT ?_ | refine zwT ?_ | refine zoF ?_ | refine zqF ?_ | refine zwF ?_ | refine zp ?_ | refine ib_exit ?_ | refine ib_other ?_ | refine zr1 ?_ | refine zr2 ?_ | refine zr3 ?_ | refine zrt ?_ | refine zrc ?_ | refine zrd ?_ | refine zoS (fun _ => ?_) (fun _ => ?_) | refine zqS (fun _ => ?_) (fun _ => ?_) | refine zwS (fun _ => ?_) (fun _ => ?_))
        revert vr lr hr
        intro v1 k1 r1
        repeat' (first | refine ao_nil ?_ | refine aq_nil ?_ | refine zov ?_ | refine zqv ?_ | refine zok ?_ | refine zqk ?_ | refine zon fun _ => ?_ | refine zow ?_ | refine zox ?_ | refine zoz ?_ | refine zoa fun vr lr hr => ?_ | (apply ao_callr2; exact wants_a; (exact oc_func rfl); (exact rfl); (first | exact fun w hw => c2 w hw.below); intro vr lr hr) | (refine aw_is ?_; first | refine aw_seq ?_ | refine aw_block ?_ | refine aw_region ?_ | refine aw_skip ?_ | refine aw_exit ?_ | refine aw_ret ?_ | refine aw_label ?_ | refine aw_scope ?_ | refine zwt ?_ | refine zwf ?_ | refine zwd ?_) | refine zoT ?_ | refine zqT ?_ | refine zwT ?_ | refine zoF ?_ | refine zqF ?_ | refine zwF ?_ | refine zp ?_ | refine ib_exit ?_ | refine ib_other ?_ | refine zr1 ?_ | refine zr2 ?_ | refine zr3 ?_ | refine zrt ?_ | refine zrc ?_ | refine zrd ?_ | refine zoS (fun _ => ?_) (fun _ => ?_) | refine zqS (fun _ => ?_) (fun _ => ?_) | refine zwS (fun _ => ?_) (fun _ => ?_))
        revert vr lr hr
        intro v2 k2 r2
        repeat' (first | refine ao_nil ?_ | refine aq_nil ?_ | refine zov ?_ | refine zqv ?_ | refine zok ?_ | refine zqk ?_ | refine zon fun _ => ?_ | refine zow ?_ | refine zox ?_ | refine zoz ?_ | refine zoa fun vr lr hr => ?_ | (apply ao_callr2; exact wants_a; (exact oc_func rfl); (exact rfl); (first | exact fun w hw => c3 w hw.below); intro vr lr hr) | (refine aw_is ?_; first | refine aw_seq ?_ | refine aw_block ?_ | refine aw_region ?_ | refine aw_skip ?_ | refine aw_exit ?_ | refine aw_ret ?_ | refine aw_label ?_ | refine aw_scope ?_ | refine zwt ?_ | refine zwf ?_ | refine zwd ?_) | refine zoT ?_ | refine zqT ?_ | refine zwT ?_ | refine zoF ?_ | refine zqF ?_ | refine zwF ?_ | refine zp ?_ | refine ib_exit ?_ | refine ib_other ?_ | refine zr1 ?_ | refine zr2 ?_ | refine zr3 ?_ | refine zrt ?_ | refine zrc ?_ | refine zrd ?_ | refine zoS (fun _ => ?_) (fun _ => ?_) | refine zqS (fun _ => ?_) (fun _ => ?_) | refine zwS (fun _ => ?_) (fun _ => ?_))
        revert vr lr hr
        intro v3 k3 r3
        repeat' (first | refine ao_nil ?_ | refine aq_nil ?_ | refine zov ?_ | refine zqv ?_ | refine zok ?_ | refine zqk ?_ | refine zon fun _ => ?_ | refine zow ?_ | refine zox ?_ | refine zoz ?_ | refine zoa fun vr lr hr => ?_ | (apply ao_callr2; exact wants_a; (exact oc_func rfl); (exact rfl); (first | exact fun w hw => c4 w); intro vr lr hr) | (refine aw_is ?_; first | refine aw_seq ?_ | refine aw_block ?_ | refine aw_region ?_ | refine aw_skip ?_ | refine aw_exit ?_ | refine aw_ret ?_ | refine aw_label ?_ | refine aw_scope ?_ | refine zwt ?_ | refine zwf ?_ | refine zwd ?_) | refine zoT ?_ | refine zqT ?_ | refine zwT ?_ | refine zoF ?_ | refine zqF ?_ | refine zwF ?_ | refine zp ?_ | refine ib_exit ?_ | refine ib_other ?_ | refine zr1 ?_ | refine zr2 ?_ | refine zr3 ?_ | refine zrt ?_ | refine zrc ?_ | refine zrd ?_ | refine zoS (fun _ => ?_) (fun _ => ?_) | refine zqS (fun _ => ?_) (fun _ => ?_) | refine zwS (fun _ => ?_) (fun _ => ?_))
        revert vr lr hr
        intro v4 k4 r4
        repeat' (first | refine ao_nil ?_ | refine aq_nil ?_ | refine zov ?_ | refine zqv ?_ | refine zok ?_ | refine zqk ?_ | refine zon fun _ => ?_ | refine zow ?_ | refine zox ?_ | refine zoz ?_ | refine zoa fun vr lr hr => ?_ | ((first | apply ao_call | apply aq_call); exact wants_a; (first | exact oc_func rfl | exact oc_clos rfl rfl); (exact rfl); (first | (intro w hw; refine s3 w v1 v2 ?_ ?_; exact hw.oldr r1 cut_a; exact hw.oldr r2 cut_a) | (intro w hw; refine s4 w v3 v4 ?_ ?_; exact hw.oldr r3 cut_a; exact hw.oldr r4 cut_a) | exact fun w hw => alive_ok w (hG.below hw.below))) | (refine aw_is ?_; first | refine aw_seq ?_ | refine aw_block ?_ | refine aw_region ?_ | refine aw_skip ?_ | refine aw_exit ?_ | refine aw_ret ?_ | refine aw_label ?_ | refine aw_scope ?_ | refine zwt ?_ | refine zwf ?_ | refine zwd ?_) | refine zoT ?_ | refine zqT ?_ | refine zwT ?_ | refine zoF ?_ | refine zqF ?_ | refine zwF ?_ | refine zp ?_ | refine ib_exit ?_ | refine ib_other ?_ | refine zr1 ?_ | refine zr2 ?_ | refine zr3 ?_ | refine zrt ?_ | refine zrc ?_ | refine zrd ?_ | refine zoS (fun _ => ?_) (fun _ => ?_) | refine zqS (fun _ => ?_) (fun _ => ?_) | refine zwS (fun _ => ?_) (fun _ => ?_))
        exact fun w' hw => ⟨by rw [beq_same], hw.below⟩
    · repeat' (first | refine ao_nil ?_ | refine aq_nil ?_ | refine zov ?_ | refine zqv ?_ | refine zok ?_ | refine zqk ?_ | refine zon fun _ => ?_ | refine zow ?_ | refine zox ?_ | refine zoz ?_ | refine zoa fun vr lr hr => ?_ | ((first | apply ao_call | apply aq_call); exact wants_a; (first | exact oc_func rfl | exact oc_clos rfl rfl); (exact rfl); (first | exact fun w hw => alive_ok w (hG.below hw.below))) | (refine aw_is ?_; first | refine aw_seq ?_ | refine aw_block ?_ | refine aw_region ?_ | refine aw_skip ?_ | refine aw_exit ?_ | refine aw_ret ?_ | refine aw_label ?_ | refine aw_scope ?_ | refine zwt ?_ | refine zwf ?_ | refine zwd ?_) | refine zoT ?_ | refine zqT ?_ | refine zwT ?_ | refine zoF ?_ | refine zqF ?_ | refine zwF ?_ | refine zp ?_ | refine ib_exit ?_ | refine ib_other ?_ | refine zr1 ?_ | refine zr2 ?_ | refine zr3 ?_ | refine zrt ?_ | refine zrc ?_ | refine zrd ?_ | refine zoS (fun _ => ?_) (fun _ => ?_) | refine zqS (fun _ => ?_) (fun _ => ?_) | refine zwS (fun _ => ?_) (fun _ => ?_))
      exact fun w' hw => ⟨rfl, hw.below⟩
  · repeat' (first | refine ao_nil ?_ | refine aq_nil ?_ | refine zov ?_ | refine zqv ?_ | refine zok ?_ | refine zqk ?_ | refine zon fun _ => ?_ | refine zow ?_ | refine zox ?_ | refine zoz ?_ | refine zoa fun vr lr hr => ?_ | ((first | apply ao_call | apply aq_call); exact wants_a; (first | exact oc_func rfl | exact oc_clos rfl rfl); (exact rfl); (first | exact fun w hw => alive_ok w (hG.below hw.below))) | (refine aw_is ?_; first | refine aw_seq ?_ | refine aw_block ?_ | refine aw_region ?_ | refine aw_skip ?_ | refine aw_exit ?_ | refine aw_ret ?_ | refine aw_label ?_ | refine aw_scope ?_ | refine zwt ?_ | refine zwf ?_ | refine zwd ?_) | refine zoT ?_ | refine zqT ?_ | refine zwT ?_ | refine zoF ?_ | refine zqF ?_ | refine zwF ?_ | refine zp ?_ | refine ib_exit ?_ | refine ib_other ?_ | refine zr1 ?_ | refine zr2 ?_ | refine zr3 ?_ | refine zrt ?_ | refine zrc ?_ | refine zrd ?_ | refine zoS (fun _ => ?_) (fun _ => ?_) | refine zqS (fun _ => ?_) (fun _ => ?_) | refine zwS (fun _ => ?_) (fun _ => ?_))
    exact fun w' hw => ⟨rfl, hw.below⟩
end Vec
end Go.Proofs.YteclgkemggmabaaDoor
