/- None is lost, as facts; the walk of TreeLost of layer 11; conditions: none. -/
import Derived.Test.YtoeidecnfkogdaaTrv
namespace Go.Proofs.Ytoeidecnfkogdaa
namespace Trt
open Go Go.RowKit Sx
attribute [local irreducible] Go.Calls

theorem gone_len {n : Nm} : ∀ {m : Tr}, m.Pairwise (fun a b => Op.bytesLess a.1 b.1 = true) → (∃ x ∈ m, x.1 = n) → (m.filter fun e => decide (e.1 ≠ n)).length + 1 = m.length
  | [], _, h => by obtain ⟨_, h, _⟩ := h; cases h
  | a :: m, hp, h => by
    rw [List.pairwise_cons] at hp
    obtain ⟨x, hx, hk⟩ := h
    rw [List.filter_cons]
    by_cases ha : a.1 = n
    · rw [if_neg (by simp [ha]), List.length_cons]
      congr 1
      rw [List.length_filter_eq_length_iff]
      intro y hy
      refine decide_eq_true fun e => ?_
      have := hp.1 y hy
      rw [ha, e, Bord.bl_irrefl] at this
      cases this
    · rw [if_pos (decide_eq_true ha), List.length_cons, List.length_cons]
      rcases List.mem_cons.1 hx with rfl | hx
      · exact absurd hk ha
      · rw [gone_len hp.2 ⟨x, hx, hk⟩]
/-- What an act does to how many there are. -/
theorem do_count {rg : Bool} {t : Tr} (h : WfT t) (kind : Int) (n o : Nm) : ((doT rg t kind n o).1 ≠ 0 → (doT rg t kind n o).2 = t) ∧ ((doT rg t kind n o).1 = 0 → (kind % 4 = 2 → (doT rg t kind n o).2.length = t.length) ∧ (kind % 4 = 3 → (doT rg t kind n o).2.length + 1 = t.length) ∧ (kind % 4 = 0 ∨ kind % 4 = 1 → (doT rg t kind n o).2.length = t.length + 1)) := by
  rcases mod4 kind with h7 | h7 | h7 | h7
  · rw [do_01 (.inl h7)]
    unfold createT
    repeat' split
    all_goals first | exact ⟨fun _ => rfl, fun h => False.elim (by simp at h)⟩ | skip
    exact ⟨fun h => (h rfl).elim, fun _ => ⟨by omega, by omega, fun _ => insT_len⟩⟩
  · rw [do_01 (.inr h7)]
    unfold createT
    repeat' split
    all_goals first | exact ⟨fun _ => rfl, fun h => False.elim (by simp at h)⟩ | skip
    exact ⟨fun h => (h rfl).elim, fun _ => ⟨by omega, by omega, fun _ => insT_len⟩⟩
  · rw [do_2 h7]
    unfold moveT
    repeat' split
    all_goals first | exact ⟨fun _ => rfl, fun h => False.elim (by simp at h)⟩ | skip
    exact ⟨fun h => (h rfl).elim, fun _ => ⟨fun _ => setP_len _ _ _, by omega, by omega⟩⟩
  · rw [do_3 h7]
    unfold removeT
    repeat' split
    all_goals first | exact ⟨fun _ => rfl, fun h => False.elim (by simp at h)⟩ | skip
    rename_i h1 _ _
    exact ⟨fun h => (h rfl).elim, fun _ => ⟨by omega, fun _ => gone_len h.rise (has_iff.1 (by simpa using h1)), by omega⟩⟩
def cntN (t : Tr) (i : Nat) : Nat := ((t.take i).map fun s => (childT t s.1).length).sum
theorem cntN_s {t : Tr} {i : Nat} {e : Nm × Nm} (he : t[i]? = some e) : cntN t (i + 1) = cntN t i + (childT t e.1).length := by
  unfold cntN
  rw [List.take_add_one, he, List.map_append, List.sum_append]
  simp
theorem cntN_all {t : Tr} (h : WfT t) : cntN t t.length + 1 = t.length := by unfold cntN; rw [List.take_length]; exact h.count
theorem cntN_le (t : Tr) (i : Nat) : cntN t i ≤ cntN t t.length := by
  unfold cntN
  rw [List.take_length]
  have h1 : (t.map fun s => (childT t s.1).length).sum = ((t.take i).map fun s => (childT t s.1).length).sum + ((t.drop i).map fun s => (childT t s.1).length).sum := by
    rw [← List.sum_append, ← List.map_append, List.take_append_drop]
  omega
theorem child_facts {t : Tr} (h : WfT t) {s x : Nm} (hx : x ∈ childT t s) : hasT t x = true ∧ parT t x = s := by
  unfold childT at hx
  obtain ⟨e, he, rfl⟩ := List.mem_map.1 hx
  obtain ⟨h1, h2⟩ := List.mem_filter.1 he
  rw [Bool.and_eq_true, decide_eq_true_eq] at h2
  exact ⟨has_iff.2 ⟨e, h1, rfl⟩, by rw [h.par h1]; exact h2.1⟩
theorem gone_lab {t : Tr} (h : FitT t) {n : Nm} (h0 : (removeT t n).1 = 0) : Lab.rightB n = true := by
  unfold removeT at h0
  by_cases h1 : hasT t n = false
  · rw [if_pos h1] at h0; simp at h0
  rw [if_neg h1] at h0
  by_cases h2 : n = rootN
  · rw [if_pos h2] at h0; simp at h0
  obtain ⟨e, he, rfl⟩ := has_iff.1 (show hasT t n = true by simpa using h1)
  exact h.lab e he h2
set_option maxHeartbeats 64000000 in
theorem lost_ok (v : Value) (xs : List Ac) (nm : Nm) (hn : ∀ a ∈ xs, 0 ≤ a.kind) (w : World) (hv : OldRow w 3 v xs.length (xs.flatMap cellsA)) : Calls Try.prog 5 #[v, S nm] w fun e w' => e = .returned (.bool true) ∧ Below w.heap.size w w' := by
  have hfit := fun w' (hb : Below w.heap.size w w') => fits11_ok v xs w' (OldRow.below hv hb)
  obtain ⟨a, cp, rfl, hat⟩ := OldRow.cells cellsA_len hv
  refine calls1 (args := [.slice a xs.length cp, S nm]) Try.func5 rfl rfl rfl rfl ?_
  cases hq : fitA xs
  · rw [hq] at hfit
    repeat' (first | refine aw_seq ?_ | refine zz ?_ | refine zon fun _ => ?_ | refine zoa fun vr lr hr => ?_ | ((first | apply ao_call | apply aq_call); exact wants_a; (first | exact oc_func rfl | exact oc_clos rfl rfl | exact oc_bnd rfl rfl); (exact rfl); (first | exact fun w hw => hfit w hw.below | exact fun w hw => alive_ok w)) | refine zoS (fun _ => ?_) (fun _ => ?_) | refine zqS (fun _ => ?_) (fun _ => ?_) | refine zwS (fun _ => ?_) (fun _ => ?_))
    exact fun w' hw => ⟨rfl, hw.below⟩
  rw [hq] at hfit
  obtain ⟨h60, hks⟩ := fitA_wf hq
  by_cases h100 : 100 < nm.length
  · repeat' (first | refine aw_seq ?_ | refine zz ?_ | refine zon fun _ => ?_ | refine zoa fun vr lr hr => ?_ | ((first | apply ao_call | apply aq_call); exact wants_a; (first | exact oc_func rfl | exact oc_clos rfl rfl | exact oc_bnd rfl rfl); (exact rfl); (first | exact fun w hw => hfit w hw.below | exact fun w hw => alive_ok w)) | refine zoS (fun _ => ?_) (fun _ => ?_) | refine zqS (fun _ => ?_) (fun _ => ?_) | refine zwS (fun _ => ?_) (fun _ => ?_))
    exact fun w' hw => ⟨rfl, hw.below⟩
  repeat' (first | refine aw_seq ?_ | refine zz ?_ | refine zon fun _ => ?_ | refine zoa fun vr lr hr => ?_ | ((first | apply ao_call | apply aq_call); exact wants_a; (first | exact oc_func rfl | exact oc_clos rfl rfl | exact oc_bnd rfl rfl); (exact rfl); (first | exact fun w hw => hfit w hw.below)) | ((apply ao_callD; exact wants_a; (exact oc_func rfl); (exact rfl); (intro w hw; exact tnew_ok w); intro vr lr hr; obtain ⟨g, hvr, hL⟩ := hr; subst hvr)) | refine zoS (fun _ => ?_) (fun _ => ?_) | refine zqS (fun _ => ?_) (fun _ => ?_) | refine zwS (fun _ => ?_) (fun _ => ?_))
  refine aw_for (t0 := [(0, .slice a xs.length cp), (1, S nm), (6, .pointer (some ⟨g, 0, none⟩)), (7, I (1 : Nat)), (8, I (0 : Nat))]) (fun q t H => ∃ (i : Nat) (tr : Tr) (l : Hp), q = xs.length - i ∧ i ≤ xs.length ∧ LTr tr g l ∧ FitT tr ∧
      t = [(0, .slice a xs.length cp), (1, S nm), (6, .pointer (some ⟨g, 0, none⟩)), (7, I tr.length), (8, I i)] ∧ H = l ++ [])
    ⟨0, Tr.new, lr, rfl, by omega, hL, FitT.new, rfl, rfl⟩ (by repeat (first | exact sub_nil | refine sub_cons rfl ?_)) ?_
  clear hL
  rintro q t H ⟨i, tr, l, rfl, hi, hL, hF, rfl, rfl⟩
  by_cases hlt : i < xs.length
  · obtain ⟨⟨kind, n, o⟩, he⟩ := getP hlt
    have m1 := List.mem_of_getElem? he
    have hk0 := hn _ m1
    simp only at hk0
    have hkk := hks _ m1
    obtain ⟨ga, o1, rfl, hg, hc⟩ := hat i _ (i : Int) he rfl
    have cA : ∀ (j : Nat) z, [.int .u8 kind, S n, S o][j]? = some z → w.cell? ⟨ga, o1 + (i : Int).toNat * 3 + j, none⟩ = some z := hc
    have c0 : w.cell? ⟨ga, o1 + (i : Int).toNat * 3, none⟩ = some (.int .u8 kind) := hc 0 _ rfl
    have c1 : w.cell? ⟨ga, o1 + (i : Int).toNat * 3 + 1, none⟩ = some (S n) := hc 1 _ rfl
    have hdo := fun m R => ldo_ok (m := m) (w0 := w) hL hF ⟨kind, n, o⟩ hk0 hkk R
    have hF2 := fit_doT hF kind hkk.1 o
    obtain ⟨k1, k2⟩ := do_count (rg := Lab.rightB n) hF.wf kind n o
    unfold LDid at hdo
    simp only at hdo hF2
    have hal := fun w' (hl : Lies w' l) => tall_ok hL hF w' hl
    have hpr := fun w' (hl : Lies w' l) => tpar_ok hL hF n w' hl
    have hll : (tr.map (·.1)).length ≤ 200 := by rw [List.length_map]; exact hF.len
    have hl200 := hF.len
    generalize doT (Lab.rightB n) tr kind n o = X at hdo hF2 k1 k2
    obtain ⟨er, t2⟩ := X
    simp only at hdo hF2 k1 k2
    have hl200b := hF2.len
    by_cases h0 : er = 0
    · subst h0
      obtain ⟨k3, k4, k5⟩ := k2 rfl
      have hte := rtexts_ok (tr.map (·.1)) (t2.map (·.1)) (by omega)
      have hl2 : ((t2.map (·.1)).length : Int) = t2.length := by rw [List.length_map]
      rcases mod4 kind with h7 | h7 | h7 | h7
      · have k6 := k5 (.inl h7)
        have k7 : (t2.length : Int) = (tr.length : Int) + 1 := by omega
        repeat' (first | refine aw_seq ?_ | ((first | apply ao_val | apply aq_val); exact wants_a; (first | exact ov_load_oa rfl hg cA rfl | exact ov_rem4 hk0 h7 rfl rfl | exact ov_lenr rfl (by assumption) | exact ov_a); (exact rfl)) | refine zy ?_ | refine zon fun _ => ?_ | refine zoa fun vr lr hr => ?_ | ((first | apply ao_call | apply aq_call); exact wants_a; (first | exact oc_func rfl | exact oc_clos rfl rfl | exact oc_bnd rfl rfl); (exact rfl); (first | exact fun w hw => hte _ _ w (hw.oldr (by assumption) cut_a) (hw.oldr (by assumption) cut_a) | exact fun w hw => hpr w (lies_of hw (l := l) cut_a))) | (apply ao_callr; exact wants_a; (exact oc_func rfl); (exact rfl); (first | exact fun w hw => hal w (lies_of hw (l := l) cut_a) | exact fun w hw => hal2 w (lies_of hw (l := l2) cut_a)); intro vr lr hr) | ((apply ao_callH (l := l); exact wants_a; (exact oc_func rfl); (exact rfl); (exact cut_a); (exact hdo _ _); rintro _ _ ⟨rfl, l2, rfl, hL2⟩; have hal2 := fun w' (hl : Lies w' l2) => tall_ok hL2 hF2 w' hl)) | refine zoS (fun _ => ?_) (fun _ => ?_) | refine zqS (fun _ => ?_) (fun _ => ?_) | refine zwS (fun _ => ?_) (fun _ => ?_))
        exact lq_normal' (t' := [(0, .slice (some ⟨ga, o1, none⟩) xs.length cp), (1, S nm), (6, .pointer (some ⟨g, 0, none⟩)), (7, I ((tr.length : Int) + 1)), (8, I ((i : Int) + 1))]) (H' := l2 ++ []) ⟨i + 1, t2, l2, rfl, by omega, hL2, hF2, by rw [k7]; rfl, rfl⟩ (by omega) (by repeat (first | exact sub_nil | refine sub_cons rfl ?_)) hsub_a
      · have k6 := k5 (.inr h7)
        have k7 : (t2.length : Int) = (tr.length : Int) + 1 := by omega
        repeat' (first | refine aw_seq ?_ | ((first | apply ao_val | apply aq_val); exact wants_a; (first | exact ov_load_oa rfl hg cA rfl | exact ov_rem4 hk0 h7 rfl rfl | exact ov_lenr rfl (by assumption) | exact ov_a); (exact rfl)) | refine zy ?_ | refine zon fun _ => ?_ | refine zoa fun vr lr hr => ?_ | ((first | apply ao_call | apply aq_call); exact wants_a; (first | exact oc_func rfl | exact oc_clos rfl rfl | exact oc_bnd rfl rfl); (exact rfl); (first | exact fun w hw => hte _ _ w (hw.oldr (by assumption) cut_a) (hw.oldr (by assumption) cut_a) | exact fun w hw => hpr w (lies_of hw (l := l) cut_a))) | (apply ao_callr; exact wants_a; (exact oc_func rfl); (exact rfl); (first | exact fun w hw => hal w (lies_of hw (l := l) cut_a) | exact fun w hw => hal2 w (lies_of hw (l := l2) cut_a)); intro vr lr hr) | ((apply ao_callH (l := l); exact wants_a; (exact oc_func rfl); (exact rfl); (exact cut_a); (exact hdo _ _); rintro _ _ ⟨rfl, l2, rfl, hL2⟩; have hal2 := fun w' (hl : Lies w' l2) => tall_ok hL2 hF2 w' hl)) | refine zoS (fun _ => ?_) (fun _ => ?_) | refine zqS (fun _ => ?_) (fun _ => ?_) | refine zwS (fun _ => ?_) (fun _ => ?_))
        exact lq_normal' (t' := [(0, .slice (some ⟨ga, o1, none⟩) xs.length cp), (1, S nm), (6, .pointer (some ⟨g, 0, none⟩)), (7, I ((tr.length : Int) + 1)), (8, I ((i : Int) + 1))]) (H' := l2 ++ []) ⟨i + 1, t2, l2, rfl, by omega, hL2, hF2, by rw [k7]; rfl, rfl⟩ (by omega) (by repeat (first | exact sub_nil | refine sub_cons rfl ?_)) hsub_a
      · have k6 := k3 h7
        have k7 : (t2.length : Int) = (tr.length : Int) := by omega
        repeat' (first | refine aw_seq ?_ | ((first | apply ao_val | apply aq_val); exact wants_a; (first | exact ov_load_oa rfl hg cA rfl | exact ov_rem4 hk0 h7 rfl rfl | exact ov_lenr rfl (by assumption) | exact ov_a); (exact rfl)) | refine zy ?_ | refine zon fun _ => ?_ | refine zoa fun vr lr hr => ?_ | ((first | apply ao_call | apply aq_call); exact wants_a; (first | exact oc_func rfl | exact oc_clos rfl rfl | exact oc_bnd rfl rfl); (exact rfl); (first | exact fun w hw => hte _ _ w (hw.oldr (by assumption) cut_a) (hw.oldr (by assumption) cut_a) | exact fun w hw => hpr w (lies_of hw (l := l) cut_a))) | (apply ao_callr; exact wants_a; (exact oc_func rfl); (exact rfl); (first | exact fun w hw => hal w (lies_of hw (l := l) cut_a) | exact fun w hw => hal2 w (lies_of hw (l := l2) cut_a)); intro vr lr hr) | ((apply ao_callH (l := l); exact wants_a; (exact oc_func rfl); (exact rfl); (exact cut_a); (exact hdo _ _); rintro _ _ ⟨rfl, l2, rfl, hL2⟩; have hal2 := fun w' (hl : Lies w' l2) => tall_ok hL2 hF2 w' hl)) | refine zoS (fun _ => ?_) (fun _ => ?_) | refine zqS (fun _ => ?_) (fun _ => ?_) | refine zwS (fun _ => ?_) (fun _ => ?_))
        exact lq_normal' (t' := [(0, .slice (some ⟨ga, o1, none⟩) xs.length cp), (1, S nm), (6, .pointer (some ⟨g, 0, none⟩)), (7, I ((tr.length : Int))), (8, I ((i : Int) + 1))]) (H' := l2 ++ []) ⟨i + 1, t2, l2, rfl, by omega, hL2, hF2, by rw [k7]; rfl, rfl⟩ (by omega) (by repeat (first | exact sub_nil | refine sub_cons rfl ?_)) hsub_a
      · have k6 := k4 h7
        have k7 : (t2.length : Int) = (tr.length : Int) - 1 := by omega
        repeat' (first | refine aw_seq ?_ | ((first | apply ao_val | apply aq_val); exact wants_a; (first | exact ov_load_oa rfl hg cA rfl | exact ov_rem4 hk0 h7 rfl rfl | exact ov_lenr rfl (by assumption) | exact ov_a); (exact rfl)) | refine zy ?_ | refine zon fun _ => ?_ | refine zoa fun vr lr hr => ?_ | ((first | apply ao_call | apply aq_call); exact wants_a; (first | exact oc_func rfl | exact oc_clos rfl rfl | exact oc_bnd rfl rfl); (exact rfl); (first | exact fun w hw => hte _ _ w (hw.oldr (by assumption) cut_a) (hw.oldr (by assumption) cut_a) | exact fun w hw => hpr w (lies_of hw (l := l) cut_a))) | (apply ao_callr; exact wants_a; (exact oc_func rfl); (exact rfl); (first | exact fun w hw => hal w (lies_of hw (l := l) cut_a) | exact fun w hw => hal2 w (lies_of hw (l := l2) cut_a)); intro vr lr hr) | ((apply ao_callH (l := l); exact wants_a; (exact oc_func rfl); (exact rfl); (exact cut_a); (exact hdo _ _); rintro _ _ ⟨rfl, l2, rfl, hL2⟩; have hal2 := fun w' (hl : Lies w' l2) => tall_ok hL2 hF2 w' hl)) | refine zoS (fun _ => ?_) (fun _ => ?_) | refine zqS (fun _ => ?_) (fun _ => ?_) | refine zwS (fun _ => ?_) (fun _ => ?_))
        exact lq_normal' (t' := [(0, .slice (some ⟨ga, o1, none⟩) xs.length cp), (1, S nm), (6, .pointer (some ⟨g, 0, none⟩)), (7, I ((tr.length : Int) - 1)), (8, I ((i : Int) + 1))]) (H' := l2 ++ []) ⟨i + 1, t2, l2, rfl, by omega, hL2, hF2, by rw [k7]; rfl, rfl⟩ (by omega) (by repeat (first | exact sub_nil | refine sub_cons rfl ?_)) hsub_a
    · have k6 := k1 h0
      subst k6
      have hte := same_ok (t2.map (·.1)) (by omega)
      have hpr2 := fun {l2 : Hp} (hL2 : LTr t2 g l2) w' (hl : Lies w' l2) => tpar_ok hL2 hF2 n w' hl
      have b1 : (er == 0) = false := beq_eq_false_iff_ne.2 h0
      have b2 : (!(parT t2 n == parT t2 n)) = false := by rw [beq_self_eq_true]; rfl
      have hl2 : ((t2.map (·.1)).length : Int) = t2.length := by rw [List.length_map]
      have b3 : (!(((t2.map (·.1)).length : Int) == (t2.length : Int))) = false := by rw [hl2, beq_self_eq_true]; rfl
      repeat' (first | refine aw_seq ?_ | ((first | apply ao_val | apply aq_val); exact wants_a; (first | exact ov_load_oa rfl hg cA rfl | exact ov_lenr rfl (by assumption) | exact ov_a); (exact rfl)) | refine zy ?_ | refine zon fun _ => ?_ | refine zoa fun vr lr hr => ?_ | ((first | apply ao_call | apply aq_call); exact wants_a; (first | exact oc_func rfl | exact oc_clos rfl rfl | exact oc_bnd rfl rfl); (exact rfl); (first | exact fun w hw => hte _ _ w (hw.oldr (by assumption) cut_a) (hw.oldr (by assumption) cut_a) | exact fun w hw => hpr w (lies_of hw (l := l) cut_a) | exact fun w hw => hpr2 hL2 w (lies_of hw (l := l2) cut_a))) | (apply ao_callr; exact wants_a; (exact oc_func rfl); (exact rfl); (first | exact fun w hw => hal w (lies_of hw (l := l) cut_a) | exact fun w hw => hal2 w (lies_of hw (l := l2) cut_a)); intro vr lr hr) | ((apply ao_callH (l := l); exact wants_a; (exact oc_func rfl); (exact rfl); (exact cut_a); (exact hdo _ _); rintro _ _ ⟨rfl, l2, rfl, hL2⟩; have hal2 := fun w' (hl : Lies w' l2) => tall_ok hL2 hF2 w' hl)) | refine zoS (fun _ => ?_) (fun _ => ?_) | refine zqS (fun _ => ?_) (fun _ => ?_) | refine zwS (fun _ => ?_) (fun _ => ?_))
      exact lq_normal' (H' := l2 ++ []) ⟨i + 1, t2, l2, rfl, by omega, hL2, hF2, rfl, rfl⟩ (by omega) (by repeat (first | exact sub_nil | refine sub_cons rfl ?_)) hsub_a
  · obtain rfl : i = xs.length := by omega
    clear hlt hi hat hfit hks hq hv hn
    have hal := fun w' (hl : Lies w' l) => tall_ok hL hF w' hl
    have hl200 := hF.len
    have hll : (tr.map (·.1)).length = tr.length := List.length_map _
    have hlp : 0 < (tr.map (·.1)).length := by rw [hll]; exact hF.pos
    have hat : ∀ (i : Nat) n, (tr.map (·.1))[i]? = some n → ∃ e, tr[i]? = some e ∧ e.1 = n := fun i n h => by
      rw [List.getElem?_map] at h
      cases he : tr[i]? with
      | none => rw [he] at h; cases h
      | some e => rw [he] at h; cases h; exact ⟨e, rfl, rfl⟩
    have hsame := same_ok (tr.map (·.1)) (by omega)
    generalize hLd : tr.map (·.1) = L at hal hll hlp hat hsame
    repeat' (first | refine aw_seq ?_ | refine zz ?_ | refine zon fun _ => ?_ | refine zoa fun vr lr hr => ?_ | (apply ao_callr; exact wants_a; (exact oc_func rfl); (exact rfl); (first | exact fun w hw => hal w (lies_of hw (l := l) cut_a)); intro vr lr hr) | refine zoS (fun _ => ?_) (fun _ => ?_) | refine zqS (fun _ => ?_) (fun _ => ?_) | refine zwS (fun _ => ?_) (fun _ => ?_))
    revert vr lr hr
    intro v6 l6 r6
    obtain ⟨gL, capL, csL, rfl, rfl, -, -, -, hcL⟩ := openB cells1_len r6 hlp
    refine aw_forH (t0 := [(1, S nm), (6, .pointer (some ⟨g, 0, none⟩)), (13, .slice (some ⟨gL, 0, none⟩) L.length capL), (14, I (1 + (cntN tr 0 : Nat))), (15, I (0 : Nat))]) (fun q t H => ∃ i : Nat, q = L.length - i ∧ i ≤ L.length ∧ t = [(1, S nm), (6, .pointer (some ⟨g, 0, none⟩)), (13, .slice (some ⟨gL, 0, none⟩) L.length capL), (14, I (1 + (cntN tr i : Nat))), (15, I i)] ∧ H = [(gL, .cells csL.toArray 9 (0, 0))] ++ (l ++ [])) ⟨0, rfl, by omega, rfl, rfl⟩ (by repeat (first | exact sub_nil | refine sub_cons rfl ?_)) hsub_a ?_
    rintro _ _ _ ⟨i, rfl, hi, rfl, rfl⟩
    have hcle := cntN_le tr i
    have hcal := cntN_all hF.wf
    by_cases hlt : i < L.length
    · obtain ⟨x, he⟩ := getP hlt
      have cL : csL[0 + (i : Int).toNat * 1]? = some (S x) := hcL i _ (i : Int) 0 _ he rfl rfl
      obtain ⟨e, he2, hex⟩ := hat i x he
      have hcs := cntN_s he2
      rw [hex] at hcs
      have hcl1 := cntN_le tr (i + 1)
      have hch := fun w' (hl : Lies w' l) => tchild_ok hL hF x w' hl
      have hcf : ∀ y ∈ childT tr x, hasT tr y = true ∧ parT tr y = x := fun y hy => child_facts hF.wf hy
      generalize childT tr x = C at hcs hch hcf
      repeat' (first | refine aw_seq ?_ | ((first | apply ao_val | apply aq_val); exact wants_a; (first | exact ov_lenr rfl (by assumption) | exact ov_a); (exact rfl)) | refine zy ?_ | refine zon fun _ => ?_ | refine zoa fun vr lr hr => ?_ | (apply ao_callr; exact wants_a; (exact oc_func rfl); (exact rfl); (first | exact fun w hw => hch w (lies_of hw (l := l) cut_a)); intro vr lr hr) | refine zoS (fun _ => ?_) (fun _ => ?_) | refine zqS (fun _ => ?_) (fun _ => ?_) | refine zwS (fun _ => ?_) (fun _ => ?_))
      obtain ⟨aC, cC, hvC⟩ := hr.len
      subst hvC
      refine aw_for (t0 := [(1, S nm), (6, .pointer (some ⟨g, 0, none⟩)), (13, .slice (some ⟨gL, 0, none⟩) L.length capL), (14, I (1 + (cntN tr i : Nat) + C.length)), (15, I i), (16, .slice aC C.length cC), (17, I (0 : Nat))]) (fun q t H => ∃ k : Nat, q = C.length - k ∧ k ≤ C.length ∧ t = [(1, S nm), (6, .pointer (some ⟨g, 0, none⟩)), (13, .slice (some ⟨gL, 0, none⟩) L.length capL), (14, I (1 + (cntN tr i : Nat) + C.length)), (15, I i), (16, .slice aC C.length cC), (17, I k)] ∧ H = lr ++ ([(gL, .cells csL.toArray 9 (0, 0))] ++ (l ++ []))) ⟨0, rfl, by omega, rfl, rfl⟩ (by repeat (first | exact sub_nil | refine sub_cons rfl ?_)) ?_
      rintro _ _ _ ⟨k, rfl, hk, rfl, rfl⟩
      by_cases hkl : k < C.length
      · obtain ⟨y, hy⟩ := getP hkl
        obtain ⟨f1, f2⟩ := hcf y (List.mem_of_getElem? hy)
        obtain ⟨gC, capC, csC, e1, e2, hcC⟩ := RowB.cells cells1_len hr hy
        cases e1
        subst e2
        have cY : csC[0 + (k : Int).toNat * 1]? = some (S y) := by rw [Int.toNat_natCast]; exact hcC 0 _ rfl
        have hpr := fun w' (hl : Lies w' l) => tpar_ok hL hF y w' hl
        have hha := fun w' (hl : Lies w' l) => thas_ok hL hF y w' hl
        rw [f1] at hha
        rw [f2] at hpr
        have b1 : (!(x == x)) = false := by rw [beq_self_eq_true]; rfl
        repeat' (first | (apply ao_nilh; exact hsub_a) | apply ao_nil | apply aq_nil | apply ah_end | ((first | apply ao_val | apply aq_val | (apply ah_take; (exact rfl))); exact wants_a; exact ov_a; (exact rfl)) | ((first | apply ao_skip | apply aq_skip | (apply ah_skip; (exact rfl))); exact nots_a; (exact rfl)) | (refine ao_is ?_; first | (apply ao_new; exact wants_a; exact on_a; (exact rfl); intro _) | (apply ao_store; exact wants_a; exact ow_a; exact upd_a) | (apply ao_valw; exact wants_a; exact ox_a; (exact rfl); exact upd_a) | (apply ao_skip0; exact nots_a) | (apply ao_append; exact wants_a; (exact rfl); assumption; (exact rfl); exact cut_a; exact has_a; (exact rfl); (exact rfl); omega; omega; omega; (exact rfl); intro vr lr hr)) | ((first | apply ao_call | apply aq_call); exact wants_a; (first | exact oc_func rfl | exact oc_clos rfl rfl | exact oc_bnd rfl rfl); (exact rfl); (first | exact fun w hw => hpr w (lies_of hw (l := l) cut_a) | exact fun w hw => hha w (lies_of hw (l := l) cut_a))) | (apply ah_one; (exact rfl)) | (apply ah_two; (exact rfl); (exact rfl)) | (apply ah_three; (exact rfl); (exact rfl); (exact rfl)) | (refine aw_is ?_; first | (apply aw_held (id := 29) (pl := (.t 0 (.t 1 (.t 2 (.t 3 (.t 4 (.t 6 (.t 7 (.t 8 (.t 9 (.o 5 (.t 10 (.t 11 (.t 12 (.t 13 (.t 14 (.t 15 (.t 16 (.o 17 (.t 18 (.t 19 .e))))))))))))))))))))); (kernel_rfl); (kernel_rfl); (kernel_rfl); (solve | (exact List.Sublist.refl _))) | refine aw_seq ?_ | refine aw_block ?_ | refine aw_region ?_ | refine aw_skip ?_ | refine aw_exit ?_ | refine aw_ret ?_ | refine aw_label ?_ | refine aw_scope ?_ | refine aw_cond_t rfl (by with_reducible rfl) ?_ | refine aw_cond_f rfl (by with_reducible rfl) ?_ | refine aw_draw (by kernel_rfl) (by kernel_rfl) ?_) | (first | (refine ah_is ?_; (fail_if_success first | refine ah_glit (b := true) rfl rfl rfl (by with_reducible rfl) ?_ | refine ah_glit (b := false) rfl rfl rfl (by with_reducible rfl) ?_); apply ah_gt; (exact rfl); (exact rfl); (exact rfl); exact t_a) | ((refine ao_is ?_; (fail_if_success first | refine ao_glit (b := true) rfl rfl (by with_reducible rfl) ?_ | refine ao_glit (b := false) rfl rfl (by with_reducible rfl) ?_)); apply ao_gt; (exact rfl); (exact rfl); exact t_a) | ((refine aq_is ?_; (fail_if_success first | refine aq_glit (b := true) rfl rfl (by with_reducible rfl) ?_ | refine aq_glit (b := false) rfl rfl (by with_reducible rfl) ?_)); apply aq_gt; (exact rfl); (exact rfl); exact t_a) | (apply aw_ct; (exact rfl); exact t_a)) | (first | (refine ah_is ?_; (fail_if_success first | refine ah_glit (b := true) rfl rfl rfl (by with_reducible rfl) ?_ | refine ah_glit (b := false) rfl rfl rfl (by with_reducible rfl) ?_); apply ah_gf; (exact rfl); (exact rfl); (exact rfl); exact f_a) | ((refine ao_is ?_; (fail_if_success first | refine ao_glit (b := true) rfl rfl (by with_reducible rfl) ?_ | refine ao_glit (b := false) rfl rfl (by with_reducible rfl) ?_)); apply ao_gf; (exact rfl); (exact rfl); exact f_a) | ((refine aq_is ?_; (fail_if_success first | refine aq_glit (b := true) rfl rfl (by with_reducible rfl) ?_ | refine aq_glit (b := false) rfl rfl (by with_reducible rfl) ?_)); apply aq_gf; (exact rfl); (exact rfl); exact f_a) | (apply aw_cf; (exact rfl); exact f_a)) | refine at_normal ?_ | refine at_exit ?_ | refine at_ret ?_ | refine ib_normal ?_ | refine ib_exit ?_ | refine ib_other ?_ | refine ib_ret ?_ | refine lq_exit ?_ | refine lq_ret ?_ | refine ci_ret ?_ | refine ci_exit ?_ | refine r1_ret rfl ?_ | refine r1_normal rfl ?_ | refine r2_ret rfl rfl ?_ | refine r2_normal rfl rfl ?_ | refine r3_ret rfl rfl rfl ?_ | refine r3_normal rfl rfl rfl ?_ | refine ng_normal ?_ | refine ng_exit ?_ | refine ng_ret ?_ | (apply rt_ret; (exact rfl); (exact rfl); (exact rfl); exact has_a; exact has_a; (exact rfl); (exact rfl)) | (apply rc1_ret; (exact rfl); exact has_a; (exact rfl)) | (apply rc2_ret; (exact rfl); exact has_a; (exact rfl); (exact rfl)) | (refine ao_is ?_; (fail_if_success first | refine ao_glit (b := true) rfl rfl (by with_reducible rfl) ?_ | refine ao_glit (b := false) rfl rfl (by with_reducible rfl) ?_); refine ao_gbool rfl rfl (fun _ => ?_) (fun _ => ?_)) | (refine aq_is ?_; (fail_if_success first | refine aq_glit (b := true) rfl rfl (by with_reducible rfl) ?_ | refine aq_glit (b := false) rfl rfl (by with_reducible rfl) ?_); refine aq_gbool rfl rfl (fun _ => ?_) (fun _ => ?_)) | (refine aw_is ?_; refine aw_cond rfl (fun _ => ?_) (fun _ => ?_)))
        exact lq_normal' ⟨k + 1, rfl, by omega, rfl, rfl⟩ (by omega) (by repeat (first | exact sub_nil | refine sub_cons rfl ?_)) hsub_a
      · obtain rfl : k = C.length := by omega
        have hc2 : (1 : Int) + (cntN tr (i + 1) : Nat) = 1 + (cntN tr i : Nat) + C.length := by rw [hcs]; omega
        repeat' (first | refine aw_seq ?_ | refine zz ?_ | refine zon fun _ => ?_ | refine zoa fun vr lr hr => ?_ | refine zoS (fun _ => ?_) (fun _ => ?_) | refine zqS (fun _ => ?_) (fun _ => ?_) | refine zwS (fun _ => ?_) (fun _ => ?_))
        exact lq_normal' (t' := [(1, S nm), (6, .pointer (some ⟨g, 0, none⟩)), (13, .slice (some ⟨gL, 0, none⟩) L.length capL), (14, I (1 + (cntN tr i : Nat) + C.length)), (15, I ((i : Int) + 1))]) ⟨i + 1, rfl, by omega, by rw [hc2]; rfl, rfl⟩ (by omega) (by repeat (first | exact sub_nil | refine sub_cons rfl ?_)) hsub_a
    · obtain rfl : i = L.length := by omega
      have hcc : cntN tr L.length = L.length - 1 := by rw [hll]; omega
      have hrem := fun m R => tremove_ok (m := m) (w0 := w) hL hF nm R
      have hpr := fun w' (hl : Lies w' l) => tpar_ok hL hF nm w' hl
      have hb1 : ((1 : Int) + (cntN tr L.length : Nat) == (L.length : Int)) = true := by rw [hcc]; exact beq_iff_eq.2 (by omega)
      have hF3 := fit_doT hF 3 (show nm.length ≤ 100 by omega) nm
      rw [do_3 (by decide)] at hF3
      have hag := hF.wf.again (n := nm) hF.len
      have hlb := gone_lab hF (n := nm)
      unfold LDid at hrem
      generalize removeT tr nm = X at hrem hF3 hag hlb
      obtain ⟨er, t3⟩ := X
      simp only at hrem hF3 hag hlb
      by_cases h0 : er = 0
      · subst h0
        obtain ⟨g1, g2⟩ := hag rfl
        have hlr := hlb rfl
        have hcr := fun {l2 : Hp} (hL2 : LTr t3 g l2) m R => tcreate_ok (m := m) (w0 := w) hL2 hF3 nm (parT tr nm) (by omega) R
        have hha := fun {l2 : Hp} (hL2 : LTr t3 g l2) w' (hl : Lies w' l2) => thas_ok hL2 hF3 nm w' hl
        rw [g2] at hha
        unfold LDid at hcr
        simp only [hlr, g1] at hcr
        have hp3 := fun {l3 : Hp} (hL3 : LTr tr g l3) w' (hl : Lies w' l3) => tpar_ok hL3 hF nm w' hl
        have ha3 := fun {l3 : Hp} (hL3 : LTr tr g l3) w' (hl : Lies w' l3) => tall_ok hL3 hF w' hl
        rw [hLd] at ha3
        have hb2 : (parT tr nm == parT tr nm) = true := beq_self_eq_true _
        repeat' (first | refine aw_seq ?_ | refine zz ?_ | refine zon fun _ => ?_ | refine zoa fun vr lr hr => ?_ | ((first | apply ao_call | apply aq_call); exact wants_a; (first | exact oc_func rfl | exact oc_clos rfl rfl | exact oc_bnd rfl rfl); (exact rfl); (first | exact fun w hw => hpr w (lies_of hw (l := l) cut_a) | exact fun w hw => hha hL2 w (lies_of hw (l := l2) cut_a))) | ((apply ao_callH (l := l); exact wants_a; (exact oc_func rfl); (exact rfl); (exact cut_a); (exact hrem _ _); rintro _ _ ⟨rfl, l2, rfl, hL2⟩)) | ((have hq := fun {m} R => hcr (m := m) hL2 R; apply ao_callH (l := l2); exact wants_a; (exact oc_func rfl); (exact rfl); (exact cut_a); (exact hq _); rintro _ _ ⟨rfl, l3, rfl, hL3⟩; clear hq hcr)) | refine zoS (fun _ => ?_) (fun _ => ?_) | refine zqS (fun _ => ?_) (fun _ => ?_) | refine zwS (fun _ => ?_) (fun _ => ?_))
        clear hpr
        repeat' (first | refine aw_seq ?_ | refine zz ?_ | refine zon fun _ => ?_ | refine zoa fun vr lr hr => ?_ | ((first | apply ao_call | apply aq_call); exact wants_a; (first | exact oc_func rfl | exact oc_clos rfl rfl | exact oc_bnd rfl rfl); (exact rfl); (first | exact fun w hw => alive_ok w | exact fun w hw => hsame _ _ w (hw.oldr r6 cut_a) (hw.oldr (by assumption) cut_a) | exact fun w hw => hp3 hL3 w (lies_of hw (l := l3) cut_a))) | (apply ao_callr; exact wants_a; (exact oc_func rfl); (exact rfl); (first | exact fun w hw => ha3 hL3 w (lies_of hw (l := l3) cut_a)); intro vr lr hr) | refine zoS (fun _ => ?_) (fun _ => ?_) | refine zqS (fun _ => ?_) (fun _ => ?_) | refine zwS (fun _ => ?_) (fun _ => ?_))
        exact fun w' hw => ⟨by rw [hb2], hw.below⟩
      · have b1 : (er != 0) = true := bne_iff_ne.2 h0
        repeat' (first | refine aw_seq ?_ | refine zz ?_ | refine zon fun _ => ?_ | refine zoa fun vr lr hr => ?_ | ((first | apply ao_call | apply aq_call); exact wants_a; (first | exact oc_func rfl | exact oc_clos rfl rfl | exact oc_bnd rfl rfl); (exact rfl); (first | exact fun w hw => alive_ok w | exact fun w hw => hpr w (lies_of hw (l := l) cut_a))) | ((apply ao_callH (l := l); exact wants_a; (exact oc_func rfl); (exact rfl); (exact cut_a); (exact hrem _ _); rintro _ _ ⟨rfl, l2, rfl, hL2⟩)) | refine zoS (fun _ => ?_) (fun _ => ?_) | refine zqS (fun _ => ?_) (fun _ => ?_) | refine zwS (fun _ => ?_) (fun _ => ?_))
        exact fun w' hw => ⟨by rw [hb1], hw.below⟩
end Trt
end Go.Proofs.Ytoeidecnfkogdaa
