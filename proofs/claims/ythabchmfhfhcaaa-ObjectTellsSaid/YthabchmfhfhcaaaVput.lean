/- Contract of the document's put for layer 4; conditions: names of at most 100,000 bytes, numbers of 128 bits. -/
import Derived.Test.YthabchmfhfhcaaaVref
namespace Go.Proofs.Ythabchmfhfhcaaa
namespace Vec
open Go Go.RowKit Sx Wid Lab
attribute [local irreducible] Go.Calls

theorem row_add {e : TypeId} {v : Value} {l : Hp} {n : Nat} {xs : List Value} {outs : List Ent} {x : Ent} (h : RowB e 3 v l (n + 1) (xs ++ [S x.1, I (sHi x.2), .int .u64 (sLo x.2)])) (hn : n = outs.length) (hx : xs = vcells outs) :
    RowB e 3 v l (outs ++ [x]).length (vcells (outs ++ [x])) := by
  subst hn hx
  have e1 : (outs ++ [x]).length = outs.length + 1 := by simp
  have e2 : vcells (outs ++ [x]) = vcells outs ++ [S x.1, I (sHi x.2), .int .u64 (sLo x.2)] := by simp [vcells, List.flatMap_append, cellsE]
  rw [e1, e2]
  exact h

set_option maxHeartbeats 8000000 in
theorem vput_ok (v : Value) (es : List Ent) (nm : Nm) (n : Int) (hwf : wfV es) (hnm : nm.length ≤ 100000) (hn : inW n) (w : World) (hv : VecAt w v es) :
    Calls Try.prog 46 #[v, S nm, WV n] w fun e w' => ∃ u, e = .returned u ∧ NewRow 51 3 w w' u (putV es nm n).length (vcells (putV es nm n)) := by
  have hln := hwf.1
  have hpl := (put_len (nm := nm) (n := n) es (n == 0)).1
  have hpl' : (putV es nm n).length ≤ es.length + 1 := hpl
  obtain ⟨a, c, rfl, hat⟩ := OldRow.cells cellsE_len hv
  refine calls1 (args := [.slice a es.length c, S nm, WV n]) Try.func46 rfl rfl rfl rfl ?_
  have hz := s_zero hn
  have hz2 : n = 0 ↔ (n == 0) = true := by simp
  repeat' (first | refine aw_cutI_at (id := 3) (fun t H => ∃ b, t = [(0, .slice a es.length c), (1, S nm), (5, .pointer (some ⟨b, 0, none⟩)), (7, .slice none 0 0), (8, .bool (n == 0))] ∧ H = [(b, .cells #[I (sHi n), .int .u64 (sLo n)] 40)]) ?_ ?_ | refine aw_cutI_at2 (id := 3) (fun t H => ∃ b, t = [(0, .slice a es.length c), (1, S nm), (5, .pointer (some ⟨b, 0, none⟩)), (7, .slice none 0 0), (8, .bool (n == 0))] ∧ H = [(b, .cells #[I (sHi n), .int .u64 (sLo n)] 40)]) ?_ ?_ | refine aw_seq ?_ | refine zz ?_ | refine zon fun _ => ?_ | refine zoa fun vr lr hr => ?_ | refine zoS (fun _ => ?_) (fun _ => ?_) | refine zqS (fun _ => ?_) (fun _ => ?_) | refine zwS (fun _ => ?_) (fun _ => ?_))
  · rename_i hh
    have hq : (n == 0) = (sLo n == 0) := by
      have h1 : sHi n = 0 := by simpa using hh
      by_cases h2 : sLo n = 0
      · rw [beq_iff_eq.2 (hz.1 ⟨h1, h2⟩), beq_iff_eq.2 h2]
      · rw [beq_eq_false_iff_ne.2 h2, beq_eq_false_iff_ne.2 fun h => h2 (hz.2 h).2]
    exact ci_normal ⟨_, rfl, rfl⟩ (sub_cons rfl (sub_cons rfl (sub_cons rfl (sub_cons rfl (sub_cons' rfl (congrArg Value.bool hq) sub_nil))))) (List.Sublist.refl _)
  · rename_i hh
    have hq : (n == 0) = false := by
      have h1 : sHi n ≠ 0 := by simpa using hh
      exact beq_eq_false_iff_ne.2 fun h => h1 (hz.2 h).1
    exact ci_normal ⟨_, rfl, rfl⟩ (sub_cons rfl (sub_cons rfl (sub_cons rfl (sub_cons rfl (sub_cons' rfl (congrArg Value.bool hq) sub_nil))))) (List.Sublist.refl _)
  rintro t H ⟨b0, rfl, rfl⟩
  repeat' (first | refine aw_seq ?_ | refine zz ?_ | refine zon fun _ => ?_ | refine zoa fun vr lr hr => ?_ | refine zoS (fun _ => ?_) (fun _ => ?_) | refine zqS (fun _ => ?_) (fun _ => ?_) | refine zwS (fun _ => ?_) (fun _ => ?_))
  refine aw_for (t0 := [(0, .slice a es.length c), (1, S nm), (5, .pointer (some ⟨b0, 0, none⟩)), (7, .slice none 0 0), (8, .bool (n == 0)), (9, I (0 : Nat))]) (fun q t H => ∃ (i : Nat) (d : Bool) (u : Value) (l : Hp) (outs : List Ent), q = es.length - i ∧ i ≤ es.length ∧ RowB 51 3 u l outs.length (vcells outs) ∧ outs ++ putL nm n d (es.drop i) = putV es nm n ∧ t = [(0, .slice a es.length c), (1, S nm), (5, .pointer (some ⟨b0, 0, none⟩)), (7, u), (8, .bool d), (9, I i)] ∧ H = l ++ [(b0, .cells #[I (sHi n), .int .u64 (sLo n)] 40)]) ⟨0, (n == 0), _, _, [], rfl, by omega, RowB.nil, rfl, rfl, rfl⟩ (by repeat (first | exact sub_nil | refine sub_cons rfl ?_)) ?_
  rintro q t H ⟨i, d, u, l, outs, rfl, hi, hr, hput, rfl, rfl⟩
  have hol : outs.length ≤ 100001 := by
    have := congrArg List.length hput
    rw [List.length_append] at this
    omega
  by_cases hlt : i < es.length
  · obtain ⟨e, he⟩ := getI hlt
    obtain ⟨g, o, rfl, hg, hc⟩ := hat i e (i : Int) he rfl
    obtain ⟨c0, -, -, -, cA⟩ := ent_cells hc
    have hwe := hwf.at he
    have hd : es.drop i = e :: es.drop (i + 1) := by
      have := List.drop_eq_getElem_cons hlt
      rw [this, (List.getElem?_eq_some_iff.1 he).2]
    have hstep : putL nm n d (e :: es.drop (i + 1)) = (if (!d && lt nm e.1) = true then [(nm, n)] else []) ++ ((if e.1 = nm then [] else [e]) ++ putL nm n (d || lt nm e.1) (es.drop (i + 1))) := rfl
    rw [hd, hstep] at hput
    cases hL : lt nm e.1
    · have hbb : ∀ w, Calls Try.prog 32 #[S nm, S e.1] w fun e w' => e = .returned (.bool false) ∧ Below w.heap.size w w' := fun w => hL ▸ before_ok nm e.1 (by omega) (by omega) w
      rw [hL, Bool.and_false, if_neg (by decide), Bool.or_false, List.nil_append] at hput
      by_cases hne : e.1 = nm
      · have hnn : (!(e.1 == nm)) = false := by simp [hne]
        rw [if_pos hne, List.nil_append] at hput
        cases d
        · repeat' (first | refine aw_seq ?_ | refine zz ?_ | refine zon fun _ => ?_ | refine zoa fun vr lr hr => ?_ | ((first | apply ao_call | apply aq_call); exact wants_a; (first | exact oc_func rfl | exact oc_clos rfl rfl); (exact rfl); (first | exact fun w hw => hbb w)) | refine zoS (fun _ => ?_) (fun _ => ?_) | refine zqS (fun _ => ?_) (fun _ => ?_) | refine zwS (fun _ => ?_) (fun _ => ?_))
          exact lq_normal' ⟨i + 1, _, _, _, outs, rfl, by omega, hr, hput, rfl, rfl⟩ (by omega) (by repeat (first | exact sub_nil | refine sub_cons rfl ?_)) hsub_a
        · repeat' (first | refine aw_seq ?_ | refine zz ?_ | refine zon fun _ => ?_ | refine zoa fun vr lr hr => ?_ | ((first | apply ao_call | apply aq_call); exact wants_a; (first | exact oc_func rfl | exact oc_clos rfl rfl); (exact rfl); (first | exact fun w hw => hbb w)) | refine zoS (fun _ => ?_) (fun _ => ?_) | refine zqS (fun _ => ?_) (fun _ => ?_) | refine zwS (fun _ => ?_) (fun _ => ?_))
          exact lq_normal' ⟨i + 1, _, _, _, outs, rfl, by omega, hr, hput, rfl, rfl⟩ (by omega) (by repeat (first | exact sub_nil | refine sub_cons rfl ?_)) hsub_a
      · have hnn : (!(e.1 == nm)) = true := by simp [hne]
        rw [if_neg hne, ← List.append_assoc] at hput
        cases d
        · repeat' (first | refine aw_seq ?_ | ((first | apply ao_val | apply aq_val); exact wants_a; (first | exact ov_load_oa rfl hg cA rfl | exact ov_a); (exact rfl)) | refine zy ?_ | refine zon fun _ => ?_ | refine zoa fun vr lr hr => ?_ | ((first | apply ao_call | apply aq_call); exact wants_a; (first | exact oc_func rfl | exact oc_clos rfl rfl); (exact rfl); (first | exact fun w hw => hbb w)) | refine zoS (fun _ => ?_) (fun _ => ?_) | refine zqS (fun _ => ?_) (fun _ => ?_) | refine zwS (fun _ => ?_) (fun _ => ?_))
          exact lq_normal' ⟨i + 1, _, _, _, outs ++ [e], rfl, by omega, row_add hr rfl rfl, hput, rfl, rfl⟩ (by omega) (by repeat (first | exact sub_nil | refine sub_cons rfl ?_)) hsub_a
        · repeat' (first | refine aw_seq ?_ | ((first | apply ao_val | apply aq_val); exact wants_a; (first | exact ov_load_oa rfl hg cA rfl | exact ov_a); (exact rfl)) | refine zy ?_ | refine zon fun _ => ?_ | refine zoa fun vr lr hr => ?_ | ((first | apply ao_call | apply aq_call); exact wants_a; (first | exact oc_func rfl | exact oc_clos rfl rfl); (exact rfl); (first | exact fun w hw => hbb w)) | refine zoS (fun _ => ?_) (fun _ => ?_) | refine zqS (fun _ => ?_) (fun _ => ?_) | refine zwS (fun _ => ?_) (fun _ => ?_))
          exact lq_normal' ⟨i + 1, _, _, _, outs ++ [e], rfl, by omega, row_add hr rfl rfl, hput, rfl, rfl⟩ (by omega) (by repeat (first | exact sub_nil | refine sub_cons rfl ?_)) hsub_a
    · have hbb : ∀ w, Calls Try.prog 32 #[S nm, S e.1] w fun e w' => e = .returned (.bool true) ∧ Below w.heap.size w w' := fun w => hL ▸ before_ok nm e.1 (by omega) (by omega) w
      have hne : ¬ e.1 = nm := (lt_ne hL).symm
      have hnn : (!(e.1 == nm)) = true := by simp [hne]
      rw [hL, Bool.and_true, Bool.or_true, if_neg hne] at hput
      cases d
      · rw [if_pos (by decide), ← List.append_assoc, ← List.append_assoc] at hput
        repeat' (first | refine aw_seq ?_ | ((first | apply ao_val | apply aq_val); exact wants_a; (first | exact ov_load_oa rfl hg cA rfl | exact ov_a); (exact rfl)) | refine zy ?_ | refine zon fun _ => ?_ | refine zoa fun vr lr hr => ?_ | ((first | apply ao_call | apply aq_call); exact wants_a; (first | exact oc_func rfl | exact oc_clos rfl rfl); (exact rfl); (first | exact fun w hw => hbb w)) | refine zoS (fun _ => ?_) (fun _ => ?_) | refine zqS (fun _ => ?_) (fun _ => ?_) | refine zwS (fun _ => ?_) (fun _ => ?_))
        rename_i hr1 hr2
        exact lq_normal' ⟨i + 1, _, _, _, outs ++ [(nm, n)] ++ [e], rfl, by omega, row_add hr (by simp) (by simp [vcells, List.flatMap_append, cellsE]), hput, rfl, rfl⟩ (by omega) (by repeat (first | exact sub_nil | refine sub_cons rfl ?_)) hsub_a
      · rw [if_neg (by decide), List.nil_append, ← List.append_assoc] at hput
        repeat' (first | refine aw_seq ?_ | ((first | apply ao_val | apply aq_val); exact wants_a; (first | exact ov_load_oa rfl hg cA rfl | exact ov_a); (exact rfl)) | refine zy ?_ | refine zon fun _ => ?_ | refine zoa fun vr lr hr => ?_ | ((first | apply ao_call | apply aq_call); exact wants_a; (first | exact oc_func rfl | exact oc_clos rfl rfl); (exact rfl); (first | exact fun w hw => hbb w)) | refine zoS (fun _ => ?_) (fun _ => ?_) | refine zqS (fun _ => ?_) (fun _ => ?_) | refine zwS (fun _ => ?_) (fun _ => ?_))
        exact lq_normal' ⟨i + 1, _, _, _, outs ++ [e], rfl, by omega, row_add hr rfl rfl, hput, rfl, rfl⟩ (by omega) (by repeat (first | exact sub_nil | refine sub_cons rfl ?_)) hsub_a
  · have hnil : es.drop i = [] := List.drop_eq_nil_of_le (by omega)
    rw [hnil] at hput
    cases d
    · have hq : putV es nm n = outs ++ [(nm, n)] := hput.symm
      rw [hq]
      repeat' (first | refine aw_seq ?_ | refine zz ?_ | refine zon fun _ => ?_ | refine zoa fun vr lr hr => ?_ | refine zoS (fun _ => ?_) (fun _ => ?_) | refine zqS (fun _ => ?_) (fun _ => ?_) | refine zwS (fun _ => ?_) (fun _ => ?_))
      exact fun w' hw => ⟨_, rfl, hw.below, _, row_add hr rfl rfl, fun b o hm => hw.at_ b o (List.mem_append_left _ hm)⟩
    · have hq : putV es nm n = outs := by rw [← hput]; simp [putL]
      rw [hq]
      repeat' (first | refine aw_seq ?_ | refine zz ?_ | refine zon fun _ => ?_ | refine zoa fun vr lr hr => ?_ | refine zoS (fun _ => ?_) (fun _ => ?_) | refine zqS (fun _ => ?_) (fun _ => ?_) | refine zwS (fun _ => ?_) (fun _ => ?_))
      exact fun w' hw => ⟨_, rfl, hw.below, _, hr, fun b o hm => hw.at_ b o (List.mem_append_left _ hm)⟩
end Vec
end Go.Proofs.Ythabchmfhfhcaaa
