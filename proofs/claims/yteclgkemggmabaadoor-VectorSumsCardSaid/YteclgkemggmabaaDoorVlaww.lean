/- Walk of layer 4: VectorWithin; conditions: the quantities' table as it was laid. -/
import Derived.Test.YteclgkemggmabaaDoorVlawm
namespace Go.Proofs.YteclgkemggmabaaDoor
namespace Vec
open Go Go.RowKit Sx Wid Lab
attribute [local irreducible] Go.Calls

theorem right_of {es : List Ent} (hr : Rise es) (h : ∀ e ∈ es, rightB e.1 = true ∧ e.2 ≠ 0) : rightV es = true := right_t fun j hj => by
  obtain ⟨e, he⟩ := getI hj
  have hok : okE e = true := by
    have := h e (List.mem_of_getElem? he)
    simp [okE, this.1, this.2]
  unfold okAt
  rw [he]
  simp only [hok, Bool.true_and]
  cases j with
  | zero => rfl
  | succ k =>
    obtain ⟨p, hp⟩ := getI (show k < es.length by omega)
    simp only [hp]
    exact rise_at hr hp he (Nat.lt_succ_self k)
theorem over_none {es : List Ent} : ∀ {fs : List Ent}, overL es fs = none → ∀ h ∈ fs, ¬ getV es h.1 > h.2
  | f :: fs, ho, h, hm => by
    unfold overL at ho
    split at ho
    · cases ho
    · rename_i hn
      rcases List.mem_cons.1 hm with rfl | hm
      · exact hn
      · exact over_none ho h hm
theorem none_over {es : List Ent} : ∀ {fs : List Ent}, (∀ h ∈ fs, ¬ getV es h.1 > h.2) → overL es fs = none
  | [], _ => rfl
  | f :: fs, h => by
    unfold overL
    rw [if_neg (h f List.mem_cons_self)]
    exact none_over fun x hx => h x (List.mem_cons_of_mem _ hx)
theorem over_some {es : List Ent} : ∀ {fs : List Ent} {nm : Nm}, Rise fs → overL es fs = some nm → ∀ f ∈ fs, (f.1 = nm → getV es f.1 > f.2) ∧ (lt f.1 nm = true → ¬ getV es f.1 > f.2)
  | f :: fs, nm, hr, ho, x, hx => by
    obtain ⟨h1, h2⟩ := rise_cons hr
    unfold overL at ho
    split at ho
    · rename_i hgt
      cases ho
      rcases List.mem_cons.1 hx with rfl | hx
      · exact ⟨fun _ => hgt, fun h => by rw [lt_irrefl] at h; cases h⟩
      · exact ⟨fun h => absurd h (lt_ne (h1 x hx)).symm, fun h => by rw [lt_asymm (h1 x hx)] at h; cases h⟩
    · rename_i hn
      rcases List.mem_cons.1 hx with rfl | hx
      · refine ⟨fun h => ?_, fun _ => hn⟩
        exfalso
        have : ∃ y ∈ fs, y.1 = nm := by
          clear hn hr h1 h2 hx h
          induction fs with
          | nil => cases ho
          | cons y fs ih =>
            unfold overL at ho
            split at ho
            · cases ho; exact ⟨y, List.mem_cons_self, rfl⟩
            · obtain ⟨z, hz, h⟩ := ih ho
              exact ⟨z, List.mem_cons_of_mem _ hz, h⟩
        obtain ⟨y, hy, h3⟩ := this
        exact lt_ne (h1 y hy) (h.trans h3.symm)
      · exact over_some h2 ho x hx
theorem comb_ok {less : Bool} {es fs : List Ent} (h : (combV less es fs).2 = 0) : rightV es = true ∧ rightV fs = true ∧ bothL less es es fs = some (combV less es fs).1 := by
  unfold combV at h ⊢
  split at h
  · rename_i hr
    simp only [Bool.and_eq_true] at hr
    cases hb : bothL less es es fs with
    | none => rw [hb] at h; simp at h
    | some o => simp [hr.1, hr.2]
  · simp at h
theorem both_right {less : Bool} {es fs o : List Ent} (h1 : rightV es = true) (h2 : rightV fs = true) (h : bothL less es es fs = some o) : rightV o = true ∧ Rise o ∧ ∀ m, getV o m = opI less (getV es m) (getV fs m) :=
  have hr := both_rise (right_rise h1) h
  ⟨right_of hr (both_mem (p := fun e => rightB e.1 = true ∧ e.2 ≠ 0) (fun _ he => right_ok h1 he) (fun _ he _ hn _ => ⟨(right_ok h2 he).1, hn⟩) h), hr, both_all (right_rise h1) (right_rise h2) h⟩
theorem within_self {es : List Ent} (h : rightV es = true) : withinP es es = (true, []) := by
  unfold withinP
  rw [h, Bool.and_self, if_pos rfl, none_over fun e he => by rw [get_mem (right_rise h) he]; omega]
theorem within_more {es fs : List Ent} {m : Nm} {k : Int} (h1 : rightV es = true) (h2 : rightV fs = true) (hn : overL es fs = none) (hk : 0 < k) (hm : ∃ e ∈ fs, e.1 = m) (ho : (combV false fs [(m, k)]).2 = 0) : withinP es (combV false fs [(m, k)]).1 = (true, []) := by
  obtain ⟨h3, h4, hb⟩ := comb_ok ho
  obtain ⟨r1, r2, r3⟩ := both_right h3 h4 hb
  unfold withinP
  rw [h1, r1, Bool.and_self, if_pos rfl, none_over]
  intro h hh
  have hz := (right_ok r1 hh).2
  have hg := get_mem r2 hh
  rw [r3] at hg
  have hg2 : getV [(m, k)] h.1 = if h.1 = m then k else 0 := get_cons (m, k) [] h.1
  have hin : ∃ e ∈ fs, e.1 = h.1 := by
    by_cases hm2 : h.1 = m
    · rw [hm2]; exact hm
    · rw [hg2, if_neg hm2, op_x0] at hg
      obtain ⟨e, he, h5, -⟩ := get_some (v := fs) (m := h.1) (by rw [hg]; exact hz)
      exact ⟨e, he, h5⟩
  obtain ⟨e, he, h5⟩ := hin
  have h6 := over_none hn e he
  have h7 := get_mem (right_rise h2) he
  rw [h5] at h6 h7
  have h8 : opI false (getV fs h.1) (getV [(m, k)] h.1) = getV fs h.1 + getV [(m, k)] h.1 := rfl
  rw [h8, hg2] at hg
  split at hg <;> omega
theorem cells1 (m : Nm) (k : Int) (h : 0 ≤ k ∧ k < 9223372036854775808) : vcells [(m, k)] = [S m, I 0, U2 k] := by
  have hin : inW k := by unfold inW; omega
  have e1 : sHi k = 0 := by unfold sHi; rw [sN_in hin]; omega
  have e2 : sLo k = k := by unfold sLo; rw [sN_in hin]; omega
  show [S m, I (sHi k), .int .u64 (sLo k)] = _
  rw [e1, e2]

set_option maxHeartbeats 32000000 in
theorem within_ok (va vb : Value) (es fs : List Ent) (n : Int) (h0 : 0 ≤ n) (hn : n ≤ 4294967295) (he : ∀ e ∈ es, inW e.2) (hf : ∀ e ∈ fs, inW e.2) (w : World) (hG : Qty.GlS w) (hva : VecCap w va es) (hvb : VecCap w vb fs) :
    Calls Tryd.prog 6 #[.agg #[va, vb], .int .u32 n] w fun e w' => e = .returned (.bool true) ∧ Below w.heap.size w w' := by
  refine calls1 (args := [.agg #[va, vb], .int .u32 n]) Tryd.func6 rfl rfl rfl rfl ?_
  cases h1 : fitL es
  · have hf1 : ∀ w', Below w.heap.size w w' → Calls Tryd.prog 7 #[va] w' fun e w'' => e = .returned (.bool false) ∧ Below w'.heap.size w' w'' := fun w' hb => h1 ▸ fitl_ok va es w' (hva.vec.below hb)
    have hf2 : ∀ w', Below w.heap.size w w' → Calls Tryd.prog 7 #[vb] w' fun e w'' => e = .returned (.bool (fitL fs)) ∧ Below w'.heap.size w' w'' := fun w' hb => fitl_ok vb fs w' (hvb.vec.below hb)
    repeat' (first | refine ao_nil ?_ | refine aq_nil ?_ | refine zov ?_ | refine zqv ?_ | refine zok ?_ | refine zqk ?_ | refine zon fun _ => ?_ | refine zow ?_ | refine zox ?_ | refine zoz ?_ | refine zoa fun vr lr hr => ?_ | ((first | apply ao_call | apply aq_call); exact wants_a; (first | exact oc_func rfl | exact oc_clos rfl rfl); (exact rfl); (first | exact fun w hw => hf1 w hw.below | exact fun w hw => hf2 w hw.below | exact fun w hw => alive_ok w (hG.below hw.below))) | (refine aw_is ?_; first | refine aw_seq ?_ | refine aw_block ?_ | refine aw_region ?_ | refine aw_skip ?_ | refine aw_exit ?_ | refine aw_ret ?_ | refine aw_label ?_ | refine aw_scope ?_ | refine zwt ?_ | refine zwf ?_ | refine zwd ?_) | refine zoT ?_ | refine zqT ?_ | refine zwT ?_ | refine zoF ?_ | refine zqF ?_ | refine zwF ?_ | refine zp ?_ | refine ib_exit ?_ | refine ib_other ?_ | refine zr1 ?_ | refine zr2 ?_ | refine zr3 ?_ | refine zrt ?_ | refine zrc ?_ | refine zrd ?_ | refine zoS (fun _ => ?_) (fun _ => ?_) | refine zqS (fun _ => ?_) (fun _ => ?_) | refine zwS (fun _ => ?_) (fun _ => ?_))
    exact fun w' hw => ⟨rfl, hw.below⟩
  have hf1 : ∀ w', Below w.heap.size w w' → Calls Tryd.prog 7 #[va] w' fun e w'' => e = .returned (.bool true) ∧ Below w'.heap.size w' w'' := fun w' hb => h1 ▸ fitl_ok va es w' (hva.vec.below hb)
  cases h2 : fitL fs
  · have hf2 : ∀ w', Below w.heap.size w w' → Calls Tryd.prog 7 #[vb] w' fun e w'' => e = .returned (.bool false) ∧ Below w'.heap.size w' w'' := fun w' hb => h2 ▸ fitl_ok vb fs w' (hvb.vec.below hb)
    repeat' (first | refine ao_nil ?_ | refine aq_nil ?_ | refine zov ?_ | refine zqv ?_ | refine zok ?_ | refine zqk ?_ | refine zon fun _ => ?_ | refine zow ?_ | refine zox ?_ | refine zoz ?_ | refine zoa fun vr lr hr => ?_ | ((first | apply ao_call | apply aq_call); exact wants_a; (first | exact oc_func rfl | exact oc_clos rfl rfl); (exact rfl); (first | exact fun w hw => hf1 w hw.below | exact fun w hw => hf2 w hw.below | exact fun w hw => alive_ok w (hG.below hw.below))) | (refine aw_is ?_; first | refine aw_seq ?_ | refine aw_block ?_ | refine aw_region ?_ | refine aw_skip ?_ | refine aw_exit ?_ | refine aw_ret ?_ | refine aw_label ?_ | refine aw_scope ?_ | refine zwt ?_ | refine zwf ?_ | refine zwd ?_) | refine zoT ?_ | refine zqT ?_ | refine zwT ?_ | refine zoF ?_ | refine zqF ?_ | refine zwF ?_ | refine zp ?_ | refine ib_exit ?_ | refine ib_other ?_ | refine zr1 ?_ | refine zr2 ?_ | refine zr3 ?_ | refine zrt ?_ | refine zrc ?_ | refine zrd ?_ | refine zoS (fun _ => ?_) (fun _ => ?_) | refine zqS (fun _ => ?_) (fun _ => ?_) | refine zwS (fun _ => ?_) (fun _ => ?_))
    exact fun w' hw => ⟨rfl, hw.below⟩
  have hf2 : ∀ w', Below w.heap.size w w' → Calls Tryd.prog 7 #[vb] w' fun e w'' => e = .returned (.bool true) ∧ Below w'.heap.size w' w'' := fun w' hb => h2 ▸ fitl_ok vb fs w' (hvb.vec.below hb)
  obtain ⟨w1, l1⟩ := wf_lit h1 he
  obtain ⟨w2, l2⟩ := wf_lit h2 hf
  have hra : ∀ w', Below w.heap.size w w' → Calls Tryd.prog 16 #[va] w' fun e w'' => e = .returned (.bool (rightV es)) ∧ Below w'.heap.size w' w'' := fun w' hb => pright_ok va es w1 w' (hva.vec.below hb)
  have hrb : ∀ w', Below w.heap.size w w' → Calls Tryd.prog 16 #[vb] w' fun e w'' => e = .returned (.bool (rightV fs)) ∧ Below w'.heap.size w' w'' := fun w' hb => pright_ok vb fs w2 w' (hvb.vec.below hb)
  cases r1 : rightV es
  · rw [r1] at hra
    repeat' (first | refine ao_nil ?_ | refine aq_nil ?_ | refine zov ?_ | refine zqv ?_ | refine zok ?_ | refine zqk ?_ | refine zon fun _ => ?_ | refine zow ?_ | refine zox ?_ | refine zoz ?_ | refine zoa fun vr lr hr => ?_ | ((first | apply ao_call | apply aq_call); exact wants_a; (first | exact oc_func rfl | exact oc_clos rfl rfl); (exact rfl); (first | exact fun w hw => hf1 w hw.below | exact fun w hw => hf2 w hw.below | exact fun w hw => alive_ok w (hG.below hw.below) | exact fun w hw => hra w hw.below)) | (refine aw_is ?_; first | refine aw_seq ?_ | refine aw_block ?_ | refine aw_region ?_ | refine aw_skip ?_ | refine aw_exit ?_ | refine aw_ret ?_ | refine aw_label ?_ | refine aw_scope ?_ | refine zwt ?_ | refine zwf ?_ | refine zwd ?_) | refine zoT ?_ | refine zqT ?_ | refine zwT ?_ | refine zoF ?_ | refine zqF ?_ | refine zwF ?_ | refine zp ?_ | refine ib_exit ?_ | refine ib_other ?_ | refine zr1 ?_ | refine zr2 ?_ | refine zr3 ?_ | refine zrt ?_ | refine zrc ?_ | refine zrd ?_ | refine zoS (fun _ => ?_) (fun _ => ?_) | refine zqS (fun _ => ?_) (fun _ => ?_) | refine zwS (fun _ => ?_) (fun _ => ?_))
    exact fun w' hw => ⟨rfl, hw.below⟩
  cases r2 : rightV fs
  · rw [r1] at hra
    rw [r2] at hrb
    repeat' (first | refine ao_nil ?_ | refine aq_nil ?_ | refine zov ?_ | refine zqv ?_ | refine zok ?_ | refine zqk ?_ | refine zon fun _ => ?_ | refine zow ?_ | refine zox ?_ | refine zoz ?_ | refine zoa fun vr lr hr => ?_ | ((first | apply ao_call | apply aq_call); exact wants_a; (first | exact oc_func rfl | exact oc_clos rfl rfl); (exact rfl); (first | exact fun w hw => hf1 w hw.below | exact fun w hw => hf2 w hw.below | exact fun w hw => alive_ok w (hG.below hw.below) | exact fun w hw => hra w hw.below | exact fun w hw => hrb w hw.below)) | (refine aw_is ?_; first | refine aw_seq ?_ | refine aw_block ?_ | refine aw_region ?_ | refine aw_skip ?_ | refine aw_exit ?_ | refine aw_ret ?_ | refine aw_label ?_ | refine aw_scope ?_ | refine zwt ?_ | refine zwf ?_ | refine zwd ?_) | refine zoT ?_ | refine zqT ?_ | refine zwT ?_ | refine zoF ?_ | refine zqF ?_ | refine zwF ?_ | refine zp ?_ | refine ib_exit ?_ | refine ib_other ?_ | refine zr1 ?_ | refine zr2 ?_ | refine zr3 ?_ | refine zrt ?_ | refine zrc ?_ | refine zrd ?_ | refine zoS (fun _ => ?_) (fun _ => ?_) | refine zqS (fun _ => ?_) (fun _ => ?_) | refine zwS (fun _ => ?_) (fun _ => ?_))
    exact fun w' hw => ⟨rfl, hw.below⟩
  rw [r1] at hra
  rw [r2] at hrb
  have ca := fun w' (hb : Below w.heap.size w w') => pwithin_ok va va es es w1 w1 w' (hva.vec.below hb) (hva.vec.below hb)
  have cb := fun w' (hb : Below w.heap.size w w') => pwithin_ok va vb es fs w1 w2 w' (hva.vec.below hb) (hvb.vec.below hb)
  rw [within_eq, within_self r1] at ca
  rw [within_eq] at cb
  obtain ⟨is, nm, hP, hcase⟩ : ∃ is nm, withinP es fs = (is, nm) ∧ ((is = true ∧ nm = [] ∧ overL es fs = none) ∨ (is = false ∧ overL es fs = some nm)) := by
    unfold withinP
    rw [r1, r2, Bool.and_self, if_pos rfl]
    cases ho : overL es fs with
    | none => exact ⟨_, _, rfl, .inl ⟨rfl, rfl, rfl⟩⟩
    | some x => exact ⟨_, _, rfl, .inr ⟨rfl, rfl⟩⟩
  rw [hP] at cb
  simp only at ca cb
  obtain ⟨a2, c2, rfl, hat2⟩ := OldRow.cells cellsE_len hvb.vec
  repeat' (first | refine ao_nil ?_ | refine aq_nil ?_ | refine zov ?_ | refine zqv ?_ | refine zok ?_ | refine zqk ?_ | refine zon fun _ => ?_ | refine zow ?_ | refine zox ?_ | refine zoz ?_ | refine zoa fun vr lr hr => ?_ | ((first | apply ao_call | apply aq_call); exact wants_a; (first | exact oc_func rfl | exact oc_clos rfl rfl); (exact rfl); (first | exact fun w hw => hf1 w hw.below | exact fun w hw => hf2 w hw.below | exact fun w hw => hra w hw.below | exact fun w hw => hrb w hw.below | exact fun w hw => ca w hw.below | exact fun w hw => cb w hw.below)) | (refine aw_is ?_; first | refine aw_seq ?_ | refine aw_block ?_ | refine aw_region ?_ | refine aw_skip ?_ | refine aw_exit ?_ | refine aw_ret ?_ | refine aw_label ?_ | refine aw_scope ?_ | refine zwt ?_ | refine zwf ?_ | refine zwd ?_) | refine zoT ?_ | refine zqT ?_ | refine zwT ?_ | refine zoF ?_ | refine zqF ?_ | refine zwF ?_ | refine zp ?_ | refine ib_exit ?_ | refine ib_other ?_ | refine zr1 ?_ | refine zr2 ?_ | refine zr3 ?_ | refine zrt ?_ | refine zrc ?_ | refine zrd ?_ | refine zoS (fun _ => ?_) (fun _ => ?_) | refine zqS (fun _ => ?_) (fun _ => ?_) | refine zwS (fun _ => ?_) (fun _ => ?_))
  refine aw_forH (t0 := [(1, .int .u32 n), (5, va), (6, .slice a2 fs.length c2), (11, .bool is), (12, S nm), (13, I (0 : Nat))]) (H0 := []) (fun q t H => ∃ (i : Nat), q = fs.length - i ∧ i ≤ fs.length ∧ t = [(1, .int .u32 n), (5, va), (6, .slice a2 fs.length c2), (11, .bool is), (12, S nm), (13, I i)] ∧ H = []) ⟨0, rfl, by omega, rfl, rfl⟩ (by repeat (first | exact sub_nil | refine sub_cons rfl ?_)) (List.nil_sublist _) ?_
  rintro q t H ⟨i, rfl, hi, rfl, rfl⟩
  by_cases hlt : i < fs.length
  · obtain ⟨f, hfi⟩ := getI hlt
    obtain ⟨g, o, rfl, hg, hc⟩ := hat2 i f (i : Int) hfi rfl
    obtain ⟨c0, -, -, cW, -⟩ := ent_cells hc
    have hwf := w2.at hfi
    have hgw := get_inW w1 f.1
    have hcg := cmp_gt (getV es f.1) f.2
    have hfm := List.mem_of_getElem? hfi
    have hget : ∀ w', Below w.heap.size w w' → _ := fun w' hb => pget_ok va es f.1 w1 w' (hva.vec.below hb)
    rcases hcase with ⟨rfl, rfl, ho⟩ | ⟨rfl, ho⟩
    · rw [decide_eq_false (over_none ho f hfm)] at hcg
      repeat' (first | refine ao_nil ?_ | refine aq_nil ?_ | ((first | apply ao_val | apply aq_val); exact wants_a; (first | exact ov_load_oa rfl hg cW rfl | exact ov_a); (exact rfl)) | refine zok ?_ | refine zqk ?_ | refine zon fun _ => ?_ | refine zow ?_ | refine zox ?_ | refine zoz ?_ | refine zoa fun vr lr hr => ?_ | ((first | apply ao_call | apply aq_call); exact wants_a; (first | exact oc_func rfl | exact oc_clos rfl rfl); (exact rfl); (first | exact fun w hw => hget w hw.below | exact fun w hw => rcmpV _ _ hgw hwf.2 w)) | (refine aw_is ?_; first | refine aw_seq ?_ | refine aw_block ?_ | refine aw_region ?_ | refine aw_skip ?_ | refine aw_exit ?_ | refine aw_ret ?_ | refine aw_label ?_ | refine aw_scope ?_ | refine zwt ?_ | refine zwf ?_ | refine zwd ?_) | refine zoT ?_ | refine zqT ?_ | refine zwT ?_ | refine zoF ?_ | refine zqF ?_ | refine zwF ?_ | refine zp ?_ | refine ib_exit ?_ | refine ib_other ?_ | refine zr1 ?_ | refine zr2 ?_ | refine zr3 ?_ | refine zrt ?_ | refine zrc ?_ | refine zrd ?_ | refine zoS (fun _ => ?_) (fun _ => ?_) | refine zqS (fun _ => ?_) (fun _ => ?_) | refine zwS (fun _ => ?_) (fun _ => ?_))
      all_goals exact lq_normal ⟨i + 1, rfl, by omega, rfl, rfl⟩ (by omega) (by repeat (first | exact sub_nil | refine sub_cons rfl ?_))
    · have hov := over_some (right_rise r2) ho f hfm
      repeat' (first | refine ao_nil ?_ | refine aq_nil ?_ | ((first | apply ao_val | apply aq_val); exact wants_a; (first | exact ov_load_oa rfl hg cW rfl | exact ov_a); (exact rfl)) | refine zok ?_ | refine zqk ?_ | refine zon fun _ => ?_ | refine zow ?_ | refine zox ?_ | refine zoz ?_ | refine zoa fun vr lr hr => ?_ | ((first | apply ao_call | apply aq_call); exact wants_a; (first | exact oc_func rfl | exact oc_clos rfl rfl); (exact rfl); (first | exact fun w hw => hget w hw.below | exact fun w hw => rcmpV _ _ hgw hwf.2 w)) | (refine aw_is ?_; first | refine aw_cutI_at (id := 15) (fun t H => t = [(1, .int .u32 n), (5, va), (6, .slice (some ⟨g, o, none⟩) fs.length c2), (11, .bool false), (12, S nm), (13, I i), (14, .bool (decide (getV es f.1 > f.2)))] ∧ H = []) ?_ ?_ | refine aw_cutI_at2 (id := 15) (fun t H => t = [(1, .int .u32 n), (5, va), (6, .slice (some ⟨g, o, none⟩) fs.length c2), (11, .bool false), (12, S nm), (13, I i), (14, .bool (decide (getV es f.1 > f.2)))] ∧ H = []) ?_ ?_ | refine aw_seq ?_ | refine aw_block ?_ | refine aw_region ?_ | refine aw_skip ?_ | refine aw_exit ?_ | refine aw_ret ?_ | refine aw_label ?_ | refine aw_scope ?_ | refine zwt ?_ | refine zwf ?_ | refine zwd ?_) | refine zoT ?_ | refine zqT ?_ | refine zwT ?_ | refine zoF ?_ | refine zqF ?_ | refine zwF ?_ | refine zp ?_ | refine ib_exit ?_ | refine ib_other ?_ | refine zr1 ?_ | refine zr2 ?_ | refine zr3 ?_ | refine zrt ?_ | refine zrc ?_ | refine zrd ?_ | refine zoS (fun _ => ?_) (fun _ => ?_) | refine zqS (fun _ => ?_) (fun _ => ?_) | refine zwS (fun _ => ?_) (fun _ => ?_))
      · exact ci_normal ⟨rfl, rfl⟩ (sub_cons rfl (sub_cons rfl (sub_cons rfl (sub_cons rfl (sub_cons rfl (sub_cons rfl (sub_cons' rfl (congrArg Value.bool hcg.symm) sub_nil))))))) hsub_a
      rintro t H ⟨rfl, rfl⟩
      by_cases hnm : f.1 = nm
      · have hq : (decide (getV es f.1 > f.2) != (f.1 == nm)) = false := by
          rw [decide_eq_true (hov.1 hnm), beq_iff_eq.2 hnm]; rfl
        repeat' (first | refine ao_nil ?_ | refine aq_nil ?_ | refine zov ?_ | refine zqv ?_ | refine zok ?_ | refine zqk ?_ | refine zon fun _ => ?_ | refine zow ?_ | refine zox ?_ | refine zoz ?_ | refine zoa fun vr lr hr => ?_ | (refine aw_is ?_; first | refine aw_seq ?_ | refine aw_block ?_ | refine aw_region ?_ | refine aw_skip ?_ | refine aw_exit ?_ | refine aw_ret ?_ | refine aw_label ?_ | refine aw_scope ?_ | refine zwt ?_ | refine zwf ?_ | refine zwd ?_) | refine zoT ?_ | refine zqT ?_ | refine zwT ?_ | refine zoF ?_ | refine zqF ?_ | refine zwF ?_ | refine zp ?_ | refine ib_exit ?_ | refine ib_other ?_ | refine zr1 ?_ | refine zr2 ?_ | refine zr3 ?_ | refine zrt ?_ | refine zrc ?_ | refine zrd ?_ | refine zoS (fun _ => ?_) (fun _ => ?_) | refine zqS (fun _ => ?_) (fun _ => ?_) | refine zwS (fun _ => ?_) (fun _ => ?_))
        all_goals exact lq_normal ⟨i + 1, rfl, by omega, rfl, rfl⟩ (by omega) (by repeat (first | exact sub_nil | refine sub_cons rfl ?_))
      · cases hl : lt f.1 nm
        · have hl2 : lt nm f.1 = true := by
            cases h : lt nm f.1
            · exact absurd (lt_total hl h) hnm
            · rfl
          have hq : (Op.bytesLess f.1 nm || f.1 == nm) = false := by rw [leq_lt, hl2]; rfl
          cases hd : (decide (getV es f.1 > f.2) != (f.1 == nm))
          · repeat' (first | refine ao_nil ?_ | refine aq_nil ?_ | refine zov ?_ | refine zqv ?_ | refine zok ?_ | refine zqk ?_ | refine zon fun _ => ?_ | refine zow ?_ | refine zox ?_ | refine zoz ?_ | refine zoa fun vr lr hr => ?_ | (refine aw_is ?_; first | refine aw_seq ?_ | refine aw_block ?_ | refine aw_region ?_ | refine aw_skip ?_ | refine aw_exit ?_ | refine aw_ret ?_ | refine aw_label ?_ | refine aw_scope ?_ | refine zwt ?_ | refine zwf ?_ | refine zwd ?_) | refine zoT ?_ | refine zqT ?_ | refine zwT ?_ | refine zoF ?_ | refine zqF ?_ | refine zwF ?_ | refine zp ?_ | refine ib_exit ?_ | refine ib_other ?_ | refine zr1 ?_ | refine zr2 ?_ | refine zr3 ?_ | refine zrt ?_ | refine zrc ?_ | refine zrd ?_ | refine zoS (fun _ => ?_) (fun _ => ?_) | refine zqS (fun _ => ?_) (fun _ => ?_) | refine zwS (fun _ => ?_) (fun _ => ?_))
            all_goals exact lq_normal ⟨i + 1, rfl, by omega, rfl, rfl⟩ (by omega) (by repeat (first | exact sub_nil | refine sub_cons rfl ?_))
          · repeat' (first | refine ao_nil ?_ | refine aq_nil ?_ | refine zov ?_ | refine zqv ?_ | refine zok ?_ | refine zqk ?_ | refine zon fun _ => ?_ | refine zow ?_ | refine zox ?_ | refine zoz ?_ | refine zoa fun vr lr hr => ?_ | (refine aw_is ?_; first | refine aw_seq ?_ | refine aw_block ?_ | refine aw_region ?_ | refine aw_skip ?_ | refine aw_exit ?_ | refine aw_ret ?_ | refine aw_label ?_ | refine aw_scope ?_ | refine zwt ?_ | refine zwf ?_ | refine zwd ?_) | refine zoT ?_ | refine zqT ?_ | refine zwT ?_ | refine zoF ?_ | refine zqF ?_ | refine zwF ?_ | refine zp ?_ | refine ib_exit ?_ | refine ib_other ?_ | refine zr1 ?_ | refine zr2 ?_ | refine zr3 ?_ | refine zrt ?_ | refine zrc ?_ | refine zrd ?_ | refine zoS (fun _ => ?_) (fun _ => ?_) | refine zqS (fun _ => ?_) (fun _ => ?_) | refine zwS (fun _ => ?_) (fun _ => ?_))
            all_goals exact lq_normal ⟨i + 1, rfl, by omega, rfl, rfl⟩ (by omega) (by repeat (first | exact sub_nil | refine sub_cons rfl ?_))
        · have hq : (decide (getV es f.1 > f.2) != (f.1 == nm)) = false := by
            rw [decide_eq_false (hov.2 hl), beq_eq_false_iff_ne.2 hnm]; rfl
          repeat' (first | refine ao_nil ?_ | refine aq_nil ?_ | refine zov ?_ | refine zqv ?_ | refine zok ?_ | refine zqk ?_ | refine zon fun _ => ?_ | refine zow ?_ | refine zox ?_ | refine zoz ?_ | refine zoa fun vr lr hr => ?_ | (refine aw_is ?_; first | refine aw_seq ?_ | refine aw_block ?_ | refine aw_region ?_ | refine aw_skip ?_ | refine aw_exit ?_ | refine aw_ret ?_ | refine aw_label ?_ | refine aw_scope ?_ | refine zwt ?_ | refine zwf ?_ | refine zwd ?_) | refine zoT ?_ | refine zqT ?_ | refine zwT ?_ | refine zoF ?_ | refine zqF ?_ | refine zwF ?_ | refine zp ?_ | refine ib_exit ?_ | refine ib_other ?_ | refine zr1 ?_ | refine zr2 ?_ | refine zr3 ?_ | refine zrt ?_ | refine zrc ?_ | refine zrd ?_ | refine zoS (fun _ => ?_) (fun _ => ?_) | refine zqS (fun _ => ?_) (fun _ => ?_) | refine zwS (fun _ => ?_) (fun _ => ?_))
          all_goals exact lq_normal ⟨i + 1, rfl, by omega, rfl, rfl⟩ (by omega) (by repeat (first | exact sub_nil | refine sub_cons rfl ?_))
  · obtain rfl : i = fs.length := by omega
    by_cases hz : fs.length = 0
    · obtain rfl := List.eq_nil_of_length_eq_zero hz
      have hlz : ((([] : List Ent).length : Int) == 0) = true := rfl
      rcases hcase with ⟨rfl, rfl, ho⟩ | ⟨rfl, ho⟩
      · repeat' (first | refine ao_nil ?_ | refine aq_nil ?_ | refine zov ?_ | refine zqv ?_ | refine zok ?_ | refine zqk ?_ | refine zon fun _ => ?_ | refine zow ?_ | refine zox ?_ | refine zoz ?_ | refine zoa fun vr lr hr => ?_ | ((first | apply ao_call | apply aq_call); exact wants_a; (first | exact oc_func rfl | exact oc_clos rfl rfl); (exact rfl); (first | exact fun w hw => alive_ok w (hG.below hw.below))) | (refine aw_is ?_; first | refine aw_seq ?_ | refine aw_block ?_ | refine aw_region ?_ | refine aw_skip ?_ | refine aw_exit ?_ | refine aw_ret ?_ | refine aw_label ?_ | refine aw_scope ?_ | refine zwt ?_ | refine zwf ?_ | refine zwd ?_) | refine zoT ?_ | refine zqT ?_ | refine zwT ?_ | refine zoF ?_ | refine zqF ?_ | refine zwF ?_ | refine zp ?_ | refine ib_exit ?_ | refine ib_other ?_ | refine zr1 ?_ | refine zr2 ?_ | refine zr3 ?_ | refine zrt ?_ | refine zrc ?_ | refine zrd ?_ | refine zoS (fun _ => ?_) (fun _ => ?_) | refine zqS (fun _ => ?_) (fun _ => ?_) | refine zwS (fun _ => ?_) (fun _ => ?_))
        all_goals exact fun w' hw => ⟨rfl, hw.below⟩
      · cases ho
    · obtain ⟨f, hf0⟩ := getI (show 0 < fs.length by omega)
      obtain ⟨g, o, rfl, hg, hc⟩ := hat2 0 f 0 hf0 rfl
      obtain ⟨c0, -, -, -, -⟩ := ent_cells hc
      have hwf := w2.at hf0
      have hlz : ((fs.length : Int) == 0) = false := beq_eq_false_iff_ne.2 (by omega)
      have hk : vcells [(f.1, n + 1)] = [S f.1, I 0, U2 (n + 1)] := cells1 _ _ (by omega)
      have w3 : wfV [(f.1, n + 1)] := ⟨by simp, fun e he => by rw [List.mem_singleton.1 he]; exact ⟨hwf.1, by unfold inW; simp only; omega⟩⟩
      obtain ⟨w4, l4⟩ := wf_comb (less := false) w2 w3 (by omega) (by simp)
      have cadd := fun b w' (hb : Below w.heap.size w w') (h : OldRow w' 3 (.slice (some ⟨b, 0, none⟩) 1 1) 1 [S f.1, I 0, U2 (n + 1)]) => padd_ok _ (.slice (some ⟨b, 0, none⟩) 1 1) fs [(f.1, n + 1)] w2 w3 (by omega) (by simp) w' (hvb.below hb) (by have := al_cap h; rw [← hk] at this; exact this)
      rcases hcase with ⟨rfl, rfl, ho⟩ | ⟨rfl, ho⟩
      · have hbig := within_more (es := es) (fs := fs) (m := f.1) (k := n + 1) r1 r2 ho (by omega) ⟨f, List.mem_of_getElem? hf0, rfl⟩
        generalize hE : (combV false fs [(f.1, n + 1)]).2 = E at cadd hbig
        generalize (combV false fs [(f.1, n + 1)]).1 = big at cadd hbig w4 l4
        by_cases hE0 : E = 0
        · subst hE0
          repeat' (first | refine ao_nil ?_ | refine aq_nil ?_ | refine zov ?_ | refine zqv ?_ | refine zok ?_ | refine zqk ?_ | refine zon fun _ => ?_ | refine zow ?_ | refine zox ?_ | refine zoz ?_ | refine zoa fun vr lr hr => ?_ | (apply ao_callr2; exact wants_a; (exact oc_func rfl); (exact rfl); (first | (intro w hw; refine cadd _ w ?_ ?_; exact hw.below; exact hw.oldr (RowB.lit rfl) cut_a)); intro vr lr hr) | (refine aw_is ?_; first | refine aw_seq ?_ | refine aw_block ?_ | refine aw_region ?_ | refine aw_skip ?_ | refine aw_exit ?_ | refine aw_ret ?_ | refine aw_label ?_ | refine aw_scope ?_ | refine zwt ?_ | refine zwf ?_ | refine zwd ?_) | refine zoT ?_ | refine zqT ?_ | refine zwT ?_ | refine zoF ?_ | refine zqF ?_ | refine zwF ?_ | refine zp ?_ | refine ib_exit ?_ | refine ib_other ?_ | refine zr1 ?_ | refine zr2 ?_ | refine zr3 ?_ | refine zrt ?_ | refine zrc ?_ | refine zrd ?_ | refine zoS (fun _ => ?_) (fun _ => ?_) | refine zqS (fun _ => ?_) (fun _ => ?_) | refine zwS (fun _ => ?_) (fun _ => ?_))
          revert vr lr hr
          intro v1 k1 q1
          obtain ⟨ax, cx, rfl⟩ := q1.len
          have cw := fun w' (hb : Below w.heap.size w w') (h : VecAt w' (.slice ax big.length cx) big) => pwithin_ok va _ es big w1 w4 w' (hva.vec.below hb) h
          rw [within_eq, hbig rfl] at cw
          simp only at cw
          repeat' (first | refine ao_nil ?_ | refine aq_nil ?_ | refine zov ?_ | refine zqv ?_ | refine zok ?_ | refine zqk ?_ | refine zon fun _ => ?_ | refine zow ?_ | refine zox ?_ | refine zoz ?_ | refine zoa fun vr lr hr => ?_ | ((first | apply ao_call | apply aq_call); exact wants_a; (first | exact oc_func rfl | exact oc_clos rfl rfl); (exact rfl); (first | (intro w hw; refine cw w ?_ ?_; exact hw.below; exact hw.oldr q1 cut_a) | exact fun w hw => alive_ok w (hG.below hw.below))) | (refine aw_is ?_; first | refine aw_seq ?_ | refine aw_block ?_ | refine aw_region ?_ | refine aw_skip ?_ | refine aw_exit ?_ | refine aw_ret ?_ | refine aw_label ?_ | refine aw_scope ?_ | refine zwt ?_ | refine zwf ?_ | refine zwd ?_) | refine zoT ?_ | refine zqT ?_ | refine zwT ?_ | refine zoF ?_ | refine zqF ?_ | refine zwF ?_ | refine zp ?_ | refine ib_exit ?_ | refine ib_other ?_ | refine zr1 ?_ | refine zr2 ?_ | refine zr3 ?_ | refine zrt ?_ | refine zrc ?_ | refine zrd ?_ | refine zoS (fun _ => ?_) (fun _ => ?_) | refine zqS (fun _ => ?_) (fun _ => ?_) | refine zwS (fun _ => ?_) (fun _ => ?_))
          all_goals exact fun w' hw => ⟨rfl, hw.below⟩
        · have hEb : (E != 0) = true := bne_iff_ne.2 hE0
          repeat' (first | refine ao_nil ?_ | refine aq_nil ?_ | refine zov ?_ | refine zqv ?_ | refine zok ?_ | refine zqk ?_ | refine zon fun _ => ?_ | refine zow ?_ | refine zox ?_ | refine zoz ?_ | refine zoa fun vr lr hr => ?_ | ((first | apply ao_call | apply aq_call); exact wants_a; (first | exact oc_func rfl | exact oc_clos rfl rfl); (exact rfl); (first | exact fun w hw => alive_ok w (hG.below hw.below))) | (apply ao_callr2; exact wants_a; (exact oc_func rfl); (exact rfl); (first | (intro w hw; refine cadd _ w ?_ ?_; exact hw.below; exact hw.oldr (RowB.lit rfl) cut_a)); intro vr lr hr) | (refine aw_is ?_; first | refine aw_seq ?_ | refine aw_block ?_ | refine aw_region ?_ | refine aw_skip ?_ | refine aw_exit ?_ | refine aw_ret ?_ | refine aw_label ?_ | refine aw_scope ?_ | refine zwt ?_ | refine zwf ?_ | refine zwd ?_) | refine zoT ?_ | refine zqT ?_ | refine zwT ?_ | refine zoF ?_ | refine zqF ?_ | refine zwF ?_ | refine zp ?_ | refine ib_exit ?_ | refine ib_other ?_ | refine zr1 ?_ | refine zr2 ?_ | refine zr3 ?_ | refine zrt ?_ | refine zrc ?_ | refine zrd ?_ | refine zoS (fun _ => ?_) (fun _ => ?_) | refine zqS (fun _ => ?_) (fun _ => ?_) | refine zwS (fun _ => ?_) (fun _ => ?_))
          all_goals exact fun w' hw => ⟨rfl, hw.below⟩
      · generalize (combV false fs [(f.1, n + 1)]).2 = E at cadd
        generalize (combV false fs [(f.1, n + 1)]).1 = big at cadd w4 l4
        repeat' (first | refine ao_nil ?_ | refine aq_nil ?_ | refine zov ?_ | refine zqv ?_ | refine zok ?_ | refine zqk ?_ | refine zon fun _ => ?_ | refine zow ?_ | refine zox ?_ | refine zoz ?_ | refine zoa fun vr lr hr => ?_ | ((first | apply ao_call | apply aq_call); exact wants_a; (first | exact oc_func rfl | exact oc_clos rfl rfl); (exact rfl); (first | exact fun w hw => alive_ok w (hG.below hw.below))) | (apply ao_callr2; exact wants_a; (exact oc_func rfl); (exact rfl); (first | (intro w hw; refine cadd _ w ?_ ?_; exact hw.below; exact hw.oldr (RowB.lit rfl) cut_a)); intro vr lr hr) | (refine aw_is ?_; first | refine aw_seq ?_ | refine aw_block ?_ | refine aw_region ?_ | refine aw_skip ?_ | refine aw_exit ?_ | refine aw_ret ?_ | refine aw_label ?_ | refine aw_scope ?_ | refine zwt ?_ | refine zwf ?_ | refine zwd ?_) | refine zoT ?_ | refine zqT ?_ | refine zwT ?_ | refine zoF ?_ | refine zqF ?_ | refine zwF ?_ | refine zp ?_ | refine ib_exit ?_ | refine ib_other ?_ | refine zr1 ?_ | refine zr2 ?_ | refine zr3 ?_ | refine zrt ?_ | refine zrc ?_ | refine zrd ?_ | refine zoS (fun _ => ?_) (fun _ => ?_) | refine zqS (fun _ => ?_) (fun _ => ?_) | refine zwS (fun _ => ?_) (fun _ => ?_))
        all_goals exact fun w' hw => ⟨rfl, hw.below⟩
end Vec
end Go.Proofs.YteclgkemggmabaaDoor
