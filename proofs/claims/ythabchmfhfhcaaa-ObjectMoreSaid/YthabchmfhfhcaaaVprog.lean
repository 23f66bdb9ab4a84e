/- Contracts of the landed code of layer 4: Right, Get, Fits, Same, Within; conditions: names of at most 100,000 bytes, numbers of 128 bits. -/
import Derived.Test.YthabchmfhfhcaaaVpparse
namespace Go.Proofs.Ythabchmfhfhcaaa
namespace Vec
open Go Go.RowKit Sx Wid Lab
attribute [local irreducible] Go.Calls

theorem eq_zero {n : Int} (h : inW n) : eqAll [I (sHi n), .int .u64 (sLo n)] [I 0, .int .u64 0] = (n == 0) := by
  have hz := s_zero h
  simp only [eqAll, eqB]
  rw [Bool.eq_iff_iff]
  simp only [Bool.and_eq_true, beq_iff_eq]
  exact hz
theorem ok_last {es : List Ent} {i : Nat} {e : Ent} (he : es[i]? = some e) : okAt es i = (okE e && lt (lastN (es.take i)) e.1) := by
  unfold okAt
  rw [he]
  cases i with
  | zero =>
    simp only [List.take_zero, Bool.and_true]
    cases h : okE e
    · rfl
    · simp only [okE, Bool.and_eq_true] at h
      have := up_last (out := []) h.1
      rw [← this]; rfl
  | succ k =>
    obtain ⟨p, hp⟩ := getI (show k < es.length by have := (List.getElem?_eq_some_iff.1 he).1; omega)
    simp only [hp]
    rw [take_snoc hp, lastN_snoc]
theorem last_len {es : List Ent} (h : wfV es) (i : Nat) : (lastN (es.take i)).length ≤ 100000 := by
  unfold lastN
  cases hg : (es.take i).getLast? with
  | none => simp
  | some r => exact (h.2 r (List.mem_of_mem_take (List.mem_of_getLast? hg))).1

set_option maxHeartbeats 8000000 in
theorem pright_ok (v : Value) (es : List Ent) (hwf : wfV es) (w : World) (hv : VecAt w v es) : Calls Try.prog 17 #[v] w fun e w' => e = .returned (.bool (rightV es)) ∧ Below w.heap.size w w' := by
  have hln := hwf.1
  obtain ⟨a, c, rfl, hat⟩ := OldRow.cells cellsE_len hv
  refine calls1 (args := [.slice a es.length c]) Try.func17 rfl rfl rfl rfl ?_
  repeat' (first | refine aw_seq ?_ | refine zz ?_ | refine zon fun _ => ?_ | refine zoa fun vr lr hr => ?_ | refine zoS (fun _ => ?_) (fun _ => ?_) | refine zqS (fun _ => ?_) (fun _ => ?_) | refine zwS (fun _ => ?_) (fun _ => ?_))
  refine aw_for (t0 := [(3, S []), (6, .slice a es.length c), (7, I es.length), (8, I (0 : Nat))]) (fun q t H => ∃ i : Nat, q = es.length - i ∧ i ≤ es.length ∧ (∀ j, j < i → okAt es j = true) ∧ t = [(3, S (lastN (es.take i))), (6, .slice a es.length c), (7, I es.length), (8, I i)] ∧ H = []) ⟨0, rfl, by omega, fun j hj => by omega, rfl, rfl⟩ (by repeat (first | exact sub_nil | refine sub_cons rfl ?_)) ?_
  rintro q t H ⟨i, rfl, hi, hall, rfl, rfl⟩
  by_cases hlt : i < es.length
  · obtain ⟨e, he⟩ := getI hlt
    obtain ⟨g, o, rfl, hg, hc⟩ := hat i e (i : Int) he rfl
    obtain ⟨-, -, -, -, cA⟩ := ent_cells hc
    have hwe := hwf.at he
    have hz := eq_zero hwe.2
    have hok := ok_last he
    have hln2 := take_snoc he
    have hrr := fun w => Lab.right_ok e.1 w
    generalize hla : lastN (es.take i) = la at hok
    cases hr : rightB e.1
    · rw [right_f hlt (by rw [hok]; simp [okE, hr])]
      rw [hr] at hrr
      repeat' (first | refine aw_seq ?_ | ((first | apply ao_val | apply aq_val); exact wants_a; (first | exact ov_load_oa rfl hg cA rfl | exact ov_a); (exact rfl)) | refine zy ?_ | refine zon fun _ => ?_ | refine zoa fun vr lr hr => ?_ | ((first | apply ao_call | apply aq_call); exact wants_a; (first | exact oc_func rfl | exact oc_clos rfl rfl); (exact rfl); (first | exact fun w hw => hrr w)) | refine zoS (fun _ => ?_) (fun _ => ?_) | refine zqS (fun _ => ?_) (fun _ => ?_) | refine zwS (fun _ => ?_) (fun _ => ?_))
      exact fun w' hw => ⟨rfl, hw.below⟩
    rw [hr] at hrr
    cases hl : lt la e.1
    · rw [right_f hlt (by rw [hok, hl]; simp)]
      have hlb : (Op.bytesLess e.1 la || e.1 == la) = true := by rw [leq_lt, hl]; rfl
      repeat' (first | refine aw_seq ?_ | ((first | apply ao_val | apply aq_val); exact wants_a; (first | exact ov_load_oa rfl hg cA rfl | exact ov_a); (exact rfl)) | refine zy ?_ | refine zon fun _ => ?_ | refine zoa fun vr lr hr => ?_ | ((first | apply ao_call | apply aq_call); exact wants_a; (first | exact oc_func rfl | exact oc_clos rfl rfl); (exact rfl); (first | exact fun w hw => hrr w)) | refine zoS (fun _ => ?_) (fun _ => ?_) | refine zqS (fun _ => ?_) (fun _ => ?_) | refine zwS (fun _ => ?_) (fun _ => ?_))
      exact fun w' hw => ⟨rfl, hw.below⟩
    have hlb : (Op.bytesLess e.1 la || e.1 == la) = false := by rw [leq_lt, hl]; rfl
    by_cases hn : e.2 = 0
    · rw [right_f hlt (by rw [hok]; simp [okE, hn])]
      rw [beq_iff_eq.2 hn] at hz
      repeat' (first | refine aw_seq ?_ | ((first | apply ao_val | apply aq_val); exact wants_a; (first | exact ov_load_oa rfl hg cA rfl | exact ov_a); (exact rfl)) | refine zy ?_ | refine zon fun _ => ?_ | refine zoa fun vr lr hr => ?_ | ((first | apply ao_call | apply aq_call); exact wants_a; (first | exact oc_func rfl | exact oc_clos rfl rfl); (exact rfl); (first | exact fun w hw => hrr w)) | refine zoS (fun _ => ?_) (fun _ => ?_) | refine zqS (fun _ => ?_) (fun _ => ?_) | refine zwS (fun _ => ?_) (fun _ => ?_))
      exact fun w' hw => ⟨rfl, hw.below⟩
    rw [beq_eq_false_iff_ne.2 hn] at hz
    repeat' (first | refine aw_seq ?_ | ((first | apply ao_val | apply aq_val); exact wants_a; (first | exact ov_load_oa rfl hg cA rfl | exact ov_a); (exact rfl)) | refine zy ?_ | refine zon fun _ => ?_ | refine zoa fun vr lr hr => ?_ | ((first | apply ao_call | apply aq_call); exact wants_a; (first | exact oc_func rfl | exact oc_clos rfl rfl); (exact rfl); (first | exact fun w hw => hrr w)) | refine zoS (fun _ => ?_) (fun _ => ?_) | refine zqS (fun _ => ?_) (fun _ => ?_) | refine zwS (fun _ => ?_) (fun _ => ?_))
    exact lq_normal' ⟨i + 1, rfl, by omega, fun j hj => by
      by_cases e1 : j = i
      · subst e1; rw [hok, hl]; simp [okE, hr, hn]
      · exact hall j (by omega), rfl, rfl⟩ (by omega) (sub_cons' rfl (by rw [hln2, lastN_snoc]) (by repeat (first | exact sub_nil | refine sub_cons rfl ?_))) hsub_a
  · obtain rfl : i = es.length := by omega
    rw [right_t hall]
    repeat' (first | refine aw_seq ?_ | refine zz ?_ | refine zon fun _ => ?_ | refine zoa fun vr lr hr => ?_ | refine zoS (fun _ => ?_) (fun _ => ?_) | refine zqS (fun _ => ?_) (fun _ => ?_) | refine zwS (fun _ => ?_) (fun _ => ?_))
    exact fun w' hw => ⟨rfl, hw.below⟩

set_option maxHeartbeats 4000000 in
theorem pget_ok (v : Value) (es : List Ent) (m : Nm) (hwf : wfV es) (w : World) (hv : VecAt w v es) : Calls Try.prog 20 #[v, S m] w fun e w' => e = .returned (WV (getV es m)) ∧ Below w.heap.size w w' := by
  have hln := hwf.1
  obtain ⟨a, c, rfl, hat⟩ := OldRow.cells cellsE_len hv
  refine callsC1 (rt := 40) (args := [.slice a es.length c, S m]) Try.func20 rfl rfl rfl rfl ?_
  repeat' (first | refine aw_seq ?_ | refine zz ?_ | refine zon fun _ => ?_ | refine zoa fun vr lr hr => ?_ | refine zoS (fun _ => ?_) (fun _ => ?_) | refine zqS (fun _ => ?_) (fun _ => ?_) | refine zwS (fun _ => ?_) (fun _ => ?_))
  refine aw_for (t0 := [(1, S m), (4, .pointer (some ⟨_, 0, none⟩)), (7, .slice a es.length c), (8, I es.length), (9, I (0 : Nat))]) (fun q t H => ∃ (g i : Nat), q = es.length - i ∧ i ≤ es.length ∧ getV es m = getV (es.drop i) m ∧ t = [(1, S m), (4, .pointer (some ⟨g, 0, none⟩)), (7, .slice a es.length c), (8, I es.length), (9, I i)] ∧ H = [(g, .cells #[I 0, .int .u64 0] 40)]) ⟨_, 0, rfl, by omega, rfl, rfl, rfl⟩ (by repeat (first | exact sub_nil | refine sub_cons rfl ?_)) ?_
  rintro q t H ⟨g0, i, rfl, hi, hget, rfl, rfl⟩
  by_cases hlt : i < es.length
  · obtain ⟨e, he⟩ := getI hlt
    obtain ⟨g, o, rfl, hg, hc⟩ := hat i e (i : Int) he rfl
    obtain ⟨-, -, -, -, cA⟩ := ent_cells hc
    have hd : es.drop i = e :: es.drop (i + 1) := by
      have := List.drop_eq_getElem_cons hlt
      rw [this, (List.getElem?_eq_some_iff.1 he).2]
    rw [hd] at hget
    by_cases hm : e.1 = m
    · have hmm : (e.1 == m) = true := beq_iff_eq.2 hm
      have hv : getV es m = e.2 := by rw [hget]; show (if e.1 = m then e.2 else _) = _; rw [if_pos hm]
      rw [hv]
      repeat' (first | refine aw_seq ?_ | ((first | apply ao_val | apply aq_val); exact wants_a; (first | exact ov_load_oa rfl hg cA rfl | exact ov_a); (exact rfl)) | refine zy ?_ | refine zon fun _ => ?_ | refine zoa fun vr lr hr => ?_ | refine zoS (fun _ => ?_) (fun _ => ?_) | refine zqS (fun _ => ?_) (fun _ => ?_) | refine zwS (fun _ => ?_) (fun _ => ?_))
      exact fun w' hw => ⟨rfl, hw.below⟩
    · have hmm : (e.1 == m) = false := beq_eq_false_iff_ne.2 hm
      have hv : getV es m = getV (es.drop (i + 1)) m := by rw [hget]; show (if e.1 = m then e.2 else _) = _; rw [if_neg hm]
      repeat' (first | refine aw_seq ?_ | ((first | apply ao_val | apply aq_val); exact wants_a; (first | exact ov_load_oa rfl hg cA rfl | exact ov_a); (exact rfl)) | refine zy ?_ | refine zon fun _ => ?_ | refine zoa fun vr lr hr => ?_ | refine zoS (fun _ => ?_) (fun _ => ?_) | refine zqS (fun _ => ?_) (fun _ => ?_) | refine zwS (fun _ => ?_) (fun _ => ?_))
      exact lq_normal' ⟨g0, i + 1, rfl, by omega, hv, rfl, rfl⟩ (by omega) (by repeat (first | exact sub_nil | refine sub_cons rfl ?_)) hsub_a
  · have hnil : es.drop i = [] := List.drop_eq_nil_of_le (by omega)
    rw [hnil] at hget
    rw [hget]
    have hz : WV (getV [] m) = W2 0 0 := by kernel_rfl
    rw [hz]
    repeat' (first | refine aw_seq ?_ | refine zz ?_ | refine zon fun _ => ?_ | refine zoa fun vr lr hr => ?_ | refine zoS (fun _ => ?_) (fun _ => ?_) | refine zqS (fun _ => ?_) (fun _ => ?_) | refine zwS (fun _ => ?_) (fun _ => ?_))
    exact fun w' hw => ⟨rfl, hw.below⟩

set_option maxHeartbeats 4000000 in
theorem equal_ok (v u : Value) (es fs : List Ent) (hw1 : wfV es) (hw2 : wfV fs) (w : World) (hv : VecAt w v es) (hu : VecAt w u fs) : Calls Try.prog 38 #[v, u] w fun e w' => e = .returned (.bool (es == fs)) ∧ Below w.heap.size w w' := by
  have hln := hw1.1
  have hln2 := hw2.1
  obtain ⟨a, c, rfl, hat⟩ := OldRow.cells cellsE_len hv
  obtain ⟨a2, c2, rfl, hat2⟩ := OldRow.cells cellsE_len hu
  refine calls1 (args := [.slice a es.length c, .slice a2 fs.length c2]) Try.func38 rfl rfl rfl rfl ?_
  by_cases hlen : es.length = fs.length
  · rw [← hlen]
    have hle : ((es.length : Int) != (es.length : Int)) = false := bne_self_eq_false _
    repeat' (first | refine aw_seq ?_ | refine zz ?_ | refine zon fun _ => ?_ | refine zoa fun vr lr hr => ?_ | refine zoS (fun _ => ?_) (fun _ => ?_) | refine zqS (fun _ => ?_) (fun _ => ?_) | refine zwS (fun _ => ?_) (fun _ => ?_))
    refine aw_for (t0 := [(0, .slice a es.length c), (1, .slice a2 es.length c2), (12, I es.length), (13, I (0 : Nat))]) (fun q t H => ∃ (i : Nat), q = es.length - i ∧ i ≤ es.length ∧ es.take i = fs.take i ∧ t = [(0, .slice a es.length c), (1, .slice a2 es.length c2), (12, I es.length), (13, I i)] ∧ H = []) ⟨0, rfl, by omega, rfl, rfl, rfl⟩ (by repeat (first | exact sub_nil | refine sub_cons rfl ?_)) ?_
    rintro q t H ⟨i, rfl, hi, htake, rfl, rfl⟩
    by_cases hlt : i < es.length
    · obtain ⟨e, he⟩ := getI hlt
      obtain ⟨f, hf⟩ := getI (show i < fs.length by omega)
      obtain ⟨g, o, rfl, hg, hc⟩ := hat i e (i : Int) he rfl
      obtain ⟨g2, o2, rfl, hg2, hc2⟩ := hat2 i f (i : Int) hf rfl
      obtain ⟨-, -, -, -, cA⟩ := ent_cells hc
      obtain ⟨-, -, -, -, cB⟩ := ent_cells hc2
      by_cases hef : e = f
      · subst hef
        repeat' (first | refine aw_seq ?_ | ((first | apply ao_val | apply aq_val); exact wants_a; (first | exact ov_load_oa rfl hg cA rfl | exact ov_load_oa rfl hg2 cB rfl | exact ov_a); (exact rfl)) | refine zy ?_ | refine zon fun _ => ?_ | refine zoa fun vr lr hr => ?_ | refine zoS (fun _ => ?_) (fun _ => ?_) | refine zqS (fun _ => ?_) (fun _ => ?_) | refine zwS (fun _ => ?_) (fun _ => ?_))
        exact lq_normal ⟨i + 1, rfl, by omega, by rw [List.take_add_one, List.take_add_one, htake, he, hf], rfl, rfl⟩ (by omega) (by repeat (first | exact sub_nil | refine sub_cons rfl ?_))
      · have hne : es ≠ fs := fun h => by rw [h, hf] at he; cases he; exact hef rfl
        rw [show (es == fs) = false from beq_eq_false_iff_ne.2 hne]
        have hb := eqAll_ne (hw1.at he).2 (hw2.at hf).2 hef
        repeat' (first | refine aw_seq ?_ | ((first | apply ao_val | apply aq_val); exact wants_a; (first | exact ov_load_oa rfl hg cA rfl | exact ov_load_oa rfl hg2 cB rfl | exact ov_a); (exact rfl)) | refine zy ?_ | refine zon fun _ => ?_ | refine zoa fun vr lr hr => ?_ | refine zoS (fun _ => ?_) (fun _ => ?_) | refine zqS (fun _ => ?_) (fun _ => ?_) | refine zwS (fun _ => ?_) (fun _ => ?_))
        exact fun w' hw => ⟨rfl, hw.below⟩
    · obtain rfl : i = es.length := by omega
      have : es = fs := by rw [List.take_length, hlen, List.take_length] at htake; exact htake
      rw [show (es == fs) = true from beq_iff_eq.2 this]
      repeat' (first | refine aw_seq ?_ | refine zz ?_ | refine zon fun _ => ?_ | refine zoa fun vr lr hr => ?_ | refine zoS (fun _ => ?_) (fun _ => ?_) | refine zqS (fun _ => ?_) (fun _ => ?_) | refine zwS (fun _ => ?_) (fun _ => ?_))
      exact fun w' hw => ⟨rfl, hw.below⟩
  · have hle : ((es.length : Int) != (fs.length : Int)) = true := bne_iff_ne.2 (by omega)
    rw [show (es == fs) = false from beq_eq_false_iff_ne.2 fun h => hlen (by rw [h])]
    repeat' (first | refine aw_seq ?_ | refine zz ?_ | refine zon fun _ => ?_ | refine zoa fun vr lr hr => ?_ | refine zoS (fun _ => ?_) (fun _ => ?_) | refine zqS (fun _ => ?_) (fun _ => ?_) | refine zwS (fun _ => ?_) (fun _ => ?_))
    exact fun w' hw => ⟨rfl, hw.below⟩

set_option maxHeartbeats 1000000 in
theorem psame_ok (v u : Value) (es fs : List Ent) (hw1 : wfV es) (hw2 : wfV fs) (w : World) (hv : VecAt w v es) (hu : VecAt w u fs) : Calls Try.prog 21 #[v, u] w fun e w' => e = .returned (.bool (es == fs)) ∧ Below w.heap.size w w' := by
  refine calls1 (args := [v, u]) Try.func21 rfl rfl rfl rfl ?_
  repeat' (first | refine aw_seq ?_ | refine zz ?_ | refine zon fun _ => ?_ | refine zoa fun vr lr hr => ?_ | ((first | apply ao_call | apply aq_call); exact wants_a; (first | exact oc_func rfl | exact oc_clos rfl rfl); (exact rfl); (first | exact fun w hw => equal_ok v u es fs hw1 hw2 w (hv.below hw.below) (hu.below hw.below))) | refine zoS (fun _ => ?_) (fun _ => ?_) | refine zqS (fun _ => ?_) (fun _ => ?_) | refine zwS (fun _ => ?_) (fun _ => ?_))
  exact fun w' hw => ⟨rfl, hw.below⟩
end Vec
end Go.Proofs.Ythabchmfhfhcaaa
