/- Contract of the landed Within of layer 4; conditions: names of at most 100,000 bytes, numbers of 128 bits. -/
import Derived.Test.YteclgkemggmabaaDoorVprog
import Derived.Test.YteclgkemggmabaaDoorScmp
namespace Go.Proofs.YteclgkemggmabaaDoor
namespace Vec
open Go Go.RowKit Sx Wid Lab
attribute [local irreducible] Go.Calls

theorem rise_of : ∀ {es : List Ent}, (∀ (j : Nat) (p e : Ent), es[j]? = some p → es[j + 1]? = some e → lt p.1 e.1 = true) → Rise es
  | [], _ => List.Pairwise.nil
  | [a], _ => by unfold Rise; simp
  | a :: b :: r, h => by
    have ih : Rise (b :: r) := rise_of fun j p e hp he => h (j + 1) p e (by simpa using hp) (by simpa using he)
    have hab := h 0 a b rfl rfl
    unfold Rise at ih ⊢
    rw [List.pairwise_cons]
    refine ⟨fun x hx => ?_, ih⟩
    rcases List.mem_cons.1 hx with rfl | hx
    · exact hab
    · exact lt_trans hab ((List.pairwise_cons.1 ih).1 x hx)
theorem right_all {es : List Ent} (h : rightV es = true) : ∀ j, j < es.length → okAt es j = true := by
  unfold rightV at h
  rw [List.all_eq_true] at h
  exact fun j hj => h j (List.mem_range.2 hj)
theorem right_rise {es : List Ent} (h : rightV es = true) : Rise es := rise_of fun j p e hp he => by
  have := right_all h (j + 1) (List.getElem?_eq_some_iff.1 he).1
  unfold okAt at this
  rw [he] at this
  simp only [hp, Bool.and_eq_true] at this
  exact this.2
theorem right_ok {es : List Ent} (h : rightV es = true) {e : Ent} (he : e ∈ es) : rightB e.1 = true ∧ e.2 ≠ 0 := by
  obtain ⟨j, hj⟩ := List.getElem?_of_mem he
  have := right_all h j (List.getElem?_eq_some_iff.1 hj).1
  unfold okAt at this
  rw [hj] at this
  simp only [Bool.and_eq_true, okE] at this
  exact ⟨this.1.1, by simpa using this.1.2⟩
theorem rise_at {es : List Ent} (h : Rise es) {i j : Nat} {a b : Ent} (ha : es[i]? = some a) (hb : es[j]? = some b) (hij : i < j) : lt a.1 b.1 = true := by
  obtain ⟨h1, rfl⟩ := List.getElem?_eq_some_iff.1 ha
  obtain ⟨h2, rfl⟩ := List.getElem?_eq_some_iff.1 hb
  exact List.pairwise_iff_getElem.1 h i j h1 h2 hij
theorem get_app {m : Nm} : ∀ {a b : List Ent}, (∀ e ∈ b, e.1 ≠ m) → getV (a ++ b) m = getV a m
  | [], b, h => get_none h
  | e :: a, b, h => by
    show (if e.1 = m then e.2 else getV (a ++ b) m) = if e.1 = m then e.2 else getV a m
    rw [get_app h]
theorem get_one {m : Nm} : ∀ {a : List Ent} {e : Ent}, (∀ x ∈ a, x.1 ≠ m) → e.1 = m → getV (a ++ [e]) m = e.2
  | [], e, _, h => by show (if e.1 = m then e.2 else 0) = e.2; rw [if_pos h]
  | x :: a, e, h, he => by
    show (if x.1 = m then x.2 else getV (a ++ [e]) m) = e.2
    rw [if_neg (h x List.mem_cons_self)]
    exact get_one (fun y hy => h y (List.mem_cons_of_mem _ hy)) he
theorem le_cases {a b : Nm} (h : lt b a = false) : a = b ∨ lt a b = true := by
  cases g : lt a b
  · exact .inl (lt_total g h)
  · exact .inr rfl

set_option maxHeartbeats 16000000 in
theorem pwithin_ok (v u : Value) (es fs : List Ent) (hw1 : wfV es) (hw2 : wfV fs) (w : World) (hv : VecAt w v es) (hu : VecAt w u fs) :
    Calls Tryd.prog 14 #[v, u] w fun e w' => e = .returned (withinV es fs) ∧ Below w.heap.size w w' := by
  have hln := hw1.1
  have hln2 := hw2.1
  obtain ⟨a, c, rfl, hat⟩ := OldRow.cells cellsE_len hv
  obtain ⟨a2, c2, rfl, hat2⟩ := OldRow.cells cellsE_len hu
  refine calls2 (args := [.slice a es.length c, .slice a2 fs.length c2]) Tryd.func14 rfl rfl rfl rfl ?_
  have hra : ∀ w', Below w.heap.size w w' → Calls Tryd.prog 16 #[.slice a es.length c] w' fun e w'' => e = .returned (.bool (rightV es)) ∧ Below w'.heap.size w' w'' := fun w' hb => pright_ok _ es hw1 w' (hv.below hb)
  have hrb : ∀ w', Below w.heap.size w w' → Calls Tryd.prog 16 #[.slice a2 fs.length c2] w' fun e w'' => e = .returned (.bool (rightV fs)) ∧ Below w'.heap.size w' w'' := fun w' hb => pright_ok _ fs hw2 w' (hu.below hb)
  cases h1 : rightV es
  · have hq : withinV es fs = .tuple #[.bool false, S []] := by unfold withinV; rw [h1]; rfl
    rw [hq]
    rw [h1] at hra
    repeat' (first | refine ao_nil ?_ | refine aq_nil ?_ | refine zov ?_ | refine zqv ?_ | refine zok ?_ | refine zqk ?_ | refine zon fun _ => ?_ | refine zow ?_ | refine zox ?_ | refine zoz ?_ | refine zoa fun vr lr hr => ?_ | ((first | apply ao_call | apply aq_call); exact wants_a; (first | exact oc_func rfl | exact oc_clos rfl rfl); (exact rfl); (first | exact fun w hw => hra w hw.below | exact fun w hw => hrb w hw.below)) | (refine aw_is ?_; first | refine aw_seq ?_ | refine aw_block ?_ | refine aw_region ?_ | refine aw_skip ?_ | refine aw_exit ?_ | refine aw_ret ?_ | refine aw_label ?_ | refine aw_scope ?_ | refine zwt ?_ | refine zwf ?_ | refine zwd ?_) | refine zoT ?_ | refine zqT ?_ | refine zwT ?_ | refine zoF ?_ | refine zqF ?_ | refine zwF ?_ | refine zp ?_ | refine ib_exit ?_ | refine ib_other ?_ | refine zr1 ?_ | refine zr2 ?_ | refine zr3 ?_ | refine zrt ?_ | refine zrc ?_ | refine zrd ?_ | refine zoS (fun _ => ?_) (fun _ => ?_) | refine zqS (fun _ => ?_) (fun _ => ?_) | refine zwS (fun _ => ?_) (fun _ => ?_))
    exact fun w' hw => ⟨rfl, hw.below⟩
  cases h2 : rightV fs
  · have hq : withinV es fs = .tuple #[.bool false, S []] := by unfold withinV; rw [h1, h2]; rfl
    rw [hq]
    rw [h1] at hra
    rw [h2] at hrb
    repeat' (first | refine ao_nil ?_ | refine aq_nil ?_ | refine zov ?_ | refine zqv ?_ | refine zok ?_ | refine zqk ?_ | refine zon fun _ => ?_ | refine zow ?_ | refine zox ?_ | refine zoz ?_ | refine zoa fun vr lr hr => ?_ | ((first | apply ao_call | apply aq_call); exact wants_a; (first | exact oc_func rfl | exact oc_clos rfl rfl); (exact rfl); (first | exact fun w hw => hra w hw.below | exact fun w hw => hrb w hw.below)) | (refine aw_is ?_; first | refine aw_seq ?_ | refine aw_block ?_ | refine aw_region ?_ | refine aw_skip ?_ | refine aw_exit ?_ | refine aw_ret ?_ | refine aw_label ?_ | refine aw_scope ?_ | refine zwt ?_ | refine zwf ?_ | refine zwd ?_) | refine zoT ?_ | refine zqT ?_ | refine zwT ?_ | refine zoF ?_ | refine zqF ?_ | refine zwF ?_ | refine zp ?_ | refine ib_exit ?_ | refine ib_other ?_ | refine zr1 ?_ | refine zr2 ?_ | refine zr3 ?_ | refine zrt ?_ | refine zrc ?_ | refine zrd ?_ | refine zoS (fun _ => ?_) (fun _ => ?_) | refine zqS (fun _ => ?_) (fun _ => ?_) | refine zwS (fun _ => ?_) (fun _ => ?_))
    exact fun w' hw => ⟨rfl, hw.below⟩
  have hq : withinV es fs = (match overL es fs with | some n => .tuple #[.bool false, S n] | none => .tuple #[.bool true, S []]) := by unfold withinV; rw [h1, h2]; rfl
  rw [hq]
  have hR1 := right_rise h1
  have hR2 := right_rise h2
  rw [h1] at hra
  rw [h2] at hrb
  repeat' (first | refine ao_nil ?_ | refine aq_nil ?_ | refine zov ?_ | refine zqv ?_ | refine zok ?_ | refine zqk ?_ | refine zon fun _ => ?_ | refine zow ?_ | refine zox ?_ | refine zoz ?_ | refine zoa fun vr lr hr => ?_ | ((first | apply ao_call | apply aq_call); exact wants_a; (first | exact oc_func rfl | exact oc_clos rfl rfl); (exact rfl); (first | exact fun w hw => hra w hw.below | exact fun w hw => hrb w hw.below)) | (refine aw_is ?_; first | refine aw_seq ?_ | refine aw_block ?_ | refine aw_region ?_ | refine aw_skip ?_ | refine aw_exit ?_ | refine aw_ret ?_ | refine aw_label ?_ | refine aw_scope ?_ | refine zwt ?_ | refine zwf ?_ | refine zwd ?_) | refine zoT ?_ | refine zqT ?_ | refine zwT ?_ | refine zoF ?_ | refine zqF ?_ | refine zwF ?_ | refine zp ?_ | refine ib_exit ?_ | refine ib_other ?_ | refine zr1 ?_ | refine zr2 ?_ | refine zr3 ?_ | refine zrt ?_ | refine zrc ?_ | refine zrd ?_ | refine zoS (fun _ => ?_) (fun _ => ?_) | refine zqS (fun _ => ?_) (fun _ => ?_) | refine zwS (fun _ => ?_) (fun _ => ?_))
  refine aw_for (t0 := [(0, .slice a es.length c), (6, I (0 : Nat)), (18, .slice a2 fs.length c2), (19, I fs.length), (20, I (0 : Nat))]) (fun q t H => ∃ (i k : Nat), q = fs.length - i ∧ i ≤ fs.length ∧ k ≤ es.length ∧ (∀ (j i' : Nat) (e f : Ent), j < k → i ≤ i' → es[j]? = some e → fs[i']? = some f → lt e.1 f.1 = true) ∧ overL es (fs.drop i) = overL es fs ∧ t = [(0, .slice a es.length c), (6, I k), (18, .slice a2 fs.length c2), (19, I fs.length), (20, I i)] ∧ H = []) ⟨0, 0, rfl, by omega, by omega, fun j i' e f hj => by omega, rfl, rfl, rfl⟩ (by repeat (first | exact sub_nil | refine sub_cons rfl ?_)) ?_
  rintro q t H ⟨i, k, rfl, hi, hk, hlow, hov, rfl, rfl⟩
  by_cases hlt : i < fs.length
  · obtain ⟨h, he⟩ := getI hlt
    obtain ⟨g, o, rfl, hg, hc⟩ := hat2 i h (i : Int) he rfl
    obtain ⟨-, -, -, -, cA⟩ := ent_cells hc
    have hwe := hw2.at he
    have hgw := get_inW hw1 h.1
    have hd : fs.drop i = h :: fs.drop (i + 1) := by
      have := List.drop_eq_getElem_cons hlt
      rw [this, (List.getElem?_eq_some_iff.1 he).2]
    rw [hd] at hov
    have hov2 : overL es (h :: fs.drop (i + 1)) = if getV es h.1 > h.2 then some h.1 else overL es (fs.drop (i + 1)) := rfl
    rw [hov2] at hov
    repeat' (first | refine ao_nil ?_ | refine aq_nil ?_ | ((first | apply ao_val | apply aq_val); exact wants_a; (first | exact ov_load_oa rfl hg cA rfl | exact ov_a); (exact rfl)) | refine zok ?_ | refine zqk ?_ | refine zon fun _ => ?_ | refine zow ?_ | refine zox ?_ | refine zoz ?_ | refine zoa fun vr lr hr => ?_ | (refine aw_is ?_; first | refine aw_cutI_at (id := 14) (fun t H => ∃ (k' b8 b9 : Nat), k' ≤ es.length ∧ (∀ (j : Nat) (e : Ent), j < k' → es[j]? = some e → lt h.1 e.1 = false) ∧ t = [(0, .slice a es.length c), (6, I k'), (8, .pointer (some ⟨b8, 0, none⟩)), (9, .pointer (some ⟨b9, 0, none⟩)), (18, .slice (some ⟨g, o, none⟩) fs.length c2), (19, I fs.length), (20, I i)] ∧ H = [(b9, .cells #[I (sHi (getV es h.1)), .int .u64 (sLo (getV es h.1))] 36), (b8, .cells #[S h.1, I (sHi h.2), .int .u64 (sLo h.2)] 51)]) ?_ ?_ | refine aw_cutI_at2 (id := 14) (fun t H => ∃ (k' b8 b9 : Nat), k' ≤ es.length ∧ (∀ (j : Nat) (e : Ent), j < k' → es[j]? = some e → lt h.1 e.1 = false) ∧ t = [(0, .slice a es.length c), (6, I k'), (8, .pointer (some ⟨b8, 0, none⟩)), (9, .pointer (some ⟨b9, 0, none⟩)), (18, .slice (some ⟨g, o, none⟩) fs.length c2), (19, I fs.length), (20, I i)] ∧ H = [(b9, .cells #[I (sHi (getV es h.1)), .int .u64 (sLo (getV es h.1))] 36), (b8, .cells #[S h.1, I (sHi h.2), .int .u64 (sLo h.2)] 51)]) ?_ ?_ | refine aw_seq ?_ | refine aw_block ?_ | refine aw_region ?_ | refine aw_skip ?_ | refine aw_exit ?_ | refine aw_ret ?_ | refine aw_label ?_ | refine aw_scope ?_ | refine zwt ?_ | refine zwf ?_ | refine zwd ?_) | refine zoT ?_ | refine zqT ?_ | refine zwT ?_ | refine zoF ?_ | refine zqF ?_ | refine zwF ?_ | refine zp ?_ | refine ib_exit ?_ | refine ib_other ?_ | refine zr1 ?_ | refine zr2 ?_ | refine zr3 ?_ | refine zrt ?_ | refine zrc ?_ | refine zrd ?_ | refine zoS (fun _ => ?_) (fun _ => ?_) | refine zqS (fun _ => ?_) (fun _ => ?_) | refine zwS (fun _ => ?_) (fun _ => ?_))
    · refine aw_for (t0 := [(0, .slice a es.length c), (6, I k), (8, .pointer (some ⟨_, 0, none⟩)), (9, .pointer (some ⟨_, 0, none⟩)), (18, .slice (some ⟨g, o, none⟩) fs.length c2), (19, I fs.length), (20, I i)]) (fun q t H => ∃ (k' b8 b9 : Nat) (x : Int), q = es.length - k' ∧ k' ≤ es.length ∧ (∀ (j : Nat) (e : Ent), j < k' → es[j]? = some e → lt h.1 e.1 = false) ∧ x = getV (es.take k') h.1 ∧ t = [(0, .slice a es.length c), (6, I k'), (8, .pointer (some ⟨b8, 0, none⟩)), (9, .pointer (some ⟨b9, 0, none⟩)), (18, .slice (some ⟨g, o, none⟩) fs.length c2), (19, I fs.length), (20, I i)] ∧ H = [(b9, .cells #[I (sHi x), .int .u64 (sLo x)] 36), (b8, .cells #[S h.1, I (sHi h.2), .int .u64 (sLo h.2)] 51)]) ⟨k, _, _, 0, rfl, hk, fun j e hj hje => lt_asymm (hlow j i e h hj (Nat.le_refl _) hje he), ?_, rfl, rfl⟩ (by repeat (first | exact sub_nil | refine sub_cons rfl ?_)) ?_
      · rw [get_none]
        intro e hm
        obtain ⟨j, hj⟩ := List.getElem?_of_mem hm
        have hjk : j < k := by have := (List.getElem?_eq_some_iff.1 hj).1; rw [List.length_take] at this; omega
        rw [List.getElem?_take_of_lt hjk] at hj
        exact lt_ne (hlow j i e h hjk (Nat.le_refl _) hj he)
      rintro q t H ⟨k', b8, b9, x, rfl, hk', hle, rfl, rfl, rfl⟩
      by_cases hlt2 : k' < es.length
      · obtain ⟨e, hek⟩ := getI hlt2
        obtain ⟨g3, o3, rfl, hg3, hc3⟩ := hat k' e (k' : Int) hek rfl
        obtain ⟨c0, -, -, cW, -⟩ := ent_cells hc3
        have hts := take_snoc hek
        have hcb := cmpB e.1 h.1
        cases hl1 : lt e.1 h.1
        · rw [show Op.bytesLess e.1 h.1 = false from hl1, if_neg (by decide)] at hcb
          cases hl2 : lt h.1 e.1
          · have heq : e.1 = h.1 := lt_total hl1 hl2
            rw [show Op.bytesLess h.1 e.1 = false from hl2, if_neg (by decide)] at hcb
            have hcc := fun w => scmp_ok e.1 h.1 w
            rw [hcb] at hcc
            have hx : e.2 = getV (es.take (k' + 1)) h.1 := by
              rw [hts, get_one _ heq]
              intro y hy
              obtain ⟨j, hj⟩ := List.getElem?_of_mem hy
              have hjk : j < k' := by have := (List.getElem?_eq_some_iff.1 hj).1; rw [List.length_take] at this; omega
              rw [List.getElem?_take_of_lt hjk] at hj
              rw [← heq]
              exact lt_ne (rise_at hR1 hj hek hjk)
            repeat' (first | refine ao_nil ?_ | refine aq_nil ?_ | ((first | apply ao_val | apply aq_val); exact wants_a; (first | exact ov_load_oa rfl hg3 cW rfl | exact ov_a); (exact rfl)) | refine zok ?_ | refine zqk ?_ | refine zon fun _ => ?_ | refine zow ?_ | refine zox ?_ | refine zoz ?_ | refine zoa fun vr lr hr => ?_ | ((first | apply ao_call | apply aq_call); exact wants_a; (first | exact oc_func rfl | exact oc_clos rfl rfl); (exact rfl); (first | exact fun w hw => hcc w)) | (refine aw_is ?_; first | refine aw_seq ?_ | refine aw_block ?_ | refine aw_region ?_ | refine aw_skip ?_ | refine aw_exit ?_ | refine aw_ret ?_ | refine aw_label ?_ | refine aw_scope ?_ | refine zwt ?_ | refine zwf ?_ | refine zwd ?_) | refine zoT ?_ | refine zqT ?_ | refine zwT ?_ | refine zoF ?_ | refine zqF ?_ | refine zwF ?_ | refine zp ?_ | refine ib_exit ?_ | refine ib_other ?_ | refine zr1 ?_ | refine zr2 ?_ | refine zr3 ?_ | refine zrt ?_ | refine zrc ?_ | refine zrd ?_ | refine zoS (fun _ => ?_) (fun _ => ?_) | refine zqS (fun _ => ?_) (fun _ => ?_) | refine zwS (fun _ => ?_) (fun _ => ?_))
            all_goals exact lq_normal' ⟨k' + 1, b8, b9, e.2, rfl, by omega, fun j y hj hy => by
              by_cases e1 : j = k'
              · subst e1; rw [hek] at hy; cases hy; exact hl2
              · exact hle j y (by omega) hy, hx, rfl, rfl⟩ (by omega) (by repeat (first | exact sub_nil | refine sub_cons rfl ?_)) hsub_a
          · rw [show Op.bytesLess h.1 e.1 = true from hl2, if_pos rfl] at hcb
            have hcc := fun w => scmp_ok e.1 h.1 w
            rw [hcb] at hcc
            have hx : getV (es.take k') h.1 = getV es h.1 := by
              have := get_app (m := h.1) (a := es.take k') (b := es.drop k') fun y hy => by
                obtain ⟨j, hj⟩ := List.getElem?_of_mem hy
                rw [List.getElem?_drop] at hj
                by_cases hj0 : j = 0
                · subst hj0; rw [Nat.add_zero, hek] at hj; cases hj; exact (lt_ne hl2).symm
                · exact (lt_ne (lt_trans hl2 (rise_at hR1 hek hj (by omega)))).symm
              rw [List.take_append_drop] at this
              exact this.symm
            rw [hx]
            repeat' (first | refine ao_nil ?_ | refine aq_nil ?_ | ((first | apply ao_val | apply aq_val); exact wants_a; (first | exact ov_load_oa rfl hg3 cW rfl | exact ov_a); (exact rfl)) | refine zok ?_ | refine zqk ?_ | refine zon fun _ => ?_ | refine zow ?_ | refine zox ?_ | refine zoz ?_ | refine zoa fun vr lr hr => ?_ | ((first | apply ao_call | apply aq_call); exact wants_a; (first | exact oc_func rfl | exact oc_clos rfl rfl); (exact rfl); (first | exact fun w hw => hcc w)) | (refine aw_is ?_; first | refine aw_seq ?_ | refine aw_block ?_ | refine aw_region ?_ | refine aw_skip ?_ | refine aw_exit ?_ | refine aw_ret ?_ | refine aw_label ?_ | refine aw_scope ?_ | refine zwt ?_ | refine zwf ?_ | refine zwd ?_) | refine zoT ?_ | refine zqT ?_ | refine zwT ?_ | refine zoF ?_ | refine zqF ?_ | refine zwF ?_ | refine zp ?_ | refine ib_exit ?_ | refine ib_other ?_ | refine zr1 ?_ | refine zr2 ?_ | refine zr3 ?_ | refine zrt ?_ | refine zrc ?_ | refine zrd ?_ | refine zoS (fun _ => ?_) (fun _ => ?_) | refine zqS (fun _ => ?_) (fun _ => ?_) | refine zwS (fun _ => ?_) (fun _ => ?_))
            all_goals exact ci_normal ⟨k', b8, b9, hk', hle, rfl, rfl⟩ (by repeat (first | exact sub_nil | refine sub_cons rfl ?_)) hsub_a
        · rw [show Op.bytesLess e.1 h.1 = true from hl1, if_pos rfl] at hcb
          have hcc := fun w => scmp_ok e.1 h.1 w
          rw [hcb] at hcc
          have hx : getV (es.take k') h.1 = getV (es.take (k' + 1)) h.1 := by
            rw [hts, get_app]
            intro y hy
            obtain rfl : y = e := by simpa using hy
            exact lt_ne hl1
          rw [hx]
          repeat' (first | refine ao_nil ?_ | refine aq_nil ?_ | ((first | apply ao_val | apply aq_val); exact wants_a; (first | exact ov_load_oa rfl hg3 cW rfl | exact ov_a); (exact rfl)) | refine zok ?_ | refine zqk ?_ | refine zon fun _ => ?_ | refine zow ?_ | refine zox ?_ | refine zoz ?_ | refine zoa fun vr lr hr => ?_ | ((first | apply ao_call | apply aq_call); exact wants_a; (first | exact oc_func rfl | exact oc_clos rfl rfl); (exact rfl); (first | exact fun w hw => hcc w)) | (refine aw_is ?_; first | refine aw_seq ?_ | refine aw_block ?_ | refine aw_region ?_ | refine aw_skip ?_ | refine aw_exit ?_ | refine aw_ret ?_ | refine aw_label ?_ | refine aw_scope ?_ | refine zwt ?_ | refine zwf ?_ | refine zwd ?_) | refine zoT ?_ | refine zqT ?_ | refine zwT ?_ | refine zoF ?_ | refine zqF ?_ | refine zwF ?_ | refine zp ?_ | refine ib_exit ?_ | refine ib_other ?_ | refine zr1 ?_ | refine zr2 ?_ | refine zr3 ?_ | refine zrt ?_ | refine zrc ?_ | refine zrd ?_ | refine zoS (fun _ => ?_) (fun _ => ?_) | refine zqS (fun _ => ?_) (fun _ => ?_) | refine zwS (fun _ => ?_) (fun _ => ?_))
          all_goals exact lq_normal' ⟨k' + 1, b8, b9, _, rfl, by omega, fun j y hj hy => by
            by_cases e1 : j = k'
            · subst e1; rw [hek] at hy; cases hy; exact lt_asymm hl1
            · exact hle j y (by omega) hy, rfl, rfl, rfl⟩ (by omega) (by repeat (first | exact sub_nil | refine sub_cons rfl ?_)) hsub_a
      · obtain rfl : k' = es.length := by omega
        rw [List.take_length]
        repeat' (first | refine ao_nil ?_ | refine aq_nil ?_ | refine zov ?_ | refine zqv ?_ | refine zok ?_ | refine zqk ?_ | refine zon fun _ => ?_ | refine zow ?_ | refine zox ?_ | refine zoz ?_ | refine zoa fun vr lr hr => ?_ | (refine aw_is ?_; first | refine aw_seq ?_ | refine aw_block ?_ | refine aw_region ?_ | refine aw_skip ?_ | refine aw_exit ?_ | refine aw_ret ?_ | refine aw_label ?_ | refine aw_scope ?_ | refine zwt ?_ | refine zwf ?_ | refine zwd ?_) | refine zoT ?_ | refine zqT ?_ | refine zwT ?_ | refine zoF ?_ | refine zqF ?_ | refine zwF ?_ | refine zp ?_ | refine ib_exit ?_ | refine ib_other ?_ | refine zr1 ?_ | refine zr2 ?_ | refine zr3 ?_ | refine zrt ?_ | refine zrc ?_ | refine zrd ?_ | refine zoS (fun _ => ?_) (fun _ => ?_) | refine zqS (fun _ => ?_) (fun _ => ?_) | refine zwS (fun _ => ?_) (fun _ => ?_))
        all_goals exact ci_normal ⟨es.length, b8, b9, hk', hle, rfl, rfl⟩ (by repeat (first | exact sub_nil | refine sub_cons rfl ?_)) hsub_a
    rintro t H ⟨k', b8, b9, hk', hle, rfl, rfl⟩
    have hcg := cmp_gt (getV es h.1) h.2
    by_cases hgt : getV es h.1 > h.2
    · rw [if_pos hgt] at hov
      rw [← hov]
      rw [decide_eq_true hgt] at hcg
      repeat' (first | refine ao_nil ?_ | refine aq_nil ?_ | refine zov ?_ | refine zqv ?_ | refine zok ?_ | refine zqk ?_ | refine zon fun _ => ?_ | refine zow ?_ | refine zox ?_ | refine zoz ?_ | refine zoa fun vr lr hr => ?_ | ((first | apply ao_call | apply aq_call); exact wants_a; (first | exact oc_func rfl | exact oc_clos rfl rfl); (exact rfl); (first | exact fun w hw => cmpP _ _ hgw hwe.2 w)) | (refine aw_is ?_; first | refine aw_seq ?_ | refine aw_block ?_ | refine aw_region ?_ | refine aw_skip ?_ | refine aw_exit ?_ | refine aw_ret ?_ | refine aw_label ?_ | refine aw_scope ?_ | refine zwt ?_ | refine zwf ?_ | refine zwd ?_) | refine zoT ?_ | refine zqT ?_ | refine zwT ?_ | refine zoF ?_ | refine zqF ?_ | refine zwF ?_ | refine zp ?_ | refine ib_exit ?_ | refine ib_other ?_ | refine zr1 ?_ | refine zr2 ?_ | refine zr3 ?_ | refine zrt ?_ | refine zrc ?_ | refine zrd ?_ | refine zoS (fun _ => ?_) (fun _ => ?_) | refine zqS (fun _ => ?_) (fun _ => ?_) | refine zwS (fun _ => ?_) (fun _ => ?_))
      all_goals exact fun w' hw => ⟨rfl, hw.below⟩
    · rw [if_neg hgt] at hov
      rw [decide_eq_false hgt] at hcg
      repeat' (first | refine ao_nil ?_ | refine aq_nil ?_ | refine zov ?_ | refine zqv ?_ | refine zok ?_ | refine zqk ?_ | refine zon fun _ => ?_ | refine zow ?_ | refine zox ?_ | refine zoz ?_ | refine zoa fun vr lr hr => ?_ | ((first | apply ao_call | apply aq_call); exact wants_a; (first | exact oc_func rfl | exact oc_clos rfl rfl); (exact rfl); (first | exact fun w hw => cmpP _ _ hgw hwe.2 w)) | (refine aw_is ?_; first | refine aw_seq ?_ | refine aw_block ?_ | refine aw_region ?_ | refine aw_skip ?_ | refine aw_exit ?_ | refine aw_ret ?_ | refine aw_label ?_ | refine aw_scope ?_ | refine zwt ?_ | refine zwf ?_ | refine zwd ?_) | refine zoT ?_ | refine zqT ?_ | refine zwT ?_ | refine zoF ?_ | refine zqF ?_ | refine zwF ?_ | refine zp ?_ | refine ib_exit ?_ | refine ib_other ?_ | refine zr1 ?_ | refine zr2 ?_ | refine zr3 ?_ | refine zrt ?_ | refine zrc ?_ | refine zrd ?_ | refine zoS (fun _ => ?_) (fun _ => ?_) | refine zqS (fun _ => ?_) (fun _ => ?_) | refine zwS (fun _ => ?_) (fun _ => ?_))
      all_goals exact lq_normal' ⟨i + 1, k', rfl, by omega, hk', fun j i' e f hj hi' hje hif => by
        have h3 := rise_at hR2 he hif (by omega)
        rcases le_cases (hle j e hj hje) with h4 | h4
        · rw [h4]; exact h3
        · exact lt_trans h4 h3, hov, rfl, rfl⟩ (by omega) (by repeat (first | exact sub_nil | refine sub_cons rfl ?_)) hsub_a
  · have hnil : fs.drop i = [] := List.drop_eq_nil_of_le (by omega)
    rw [hnil] at hov
    rw [← hov]
    repeat' (first | refine ao_nil ?_ | refine aq_nil ?_ | refine zov ?_ | refine zqv ?_ | refine zok ?_ | refine zqk ?_ | refine zon fun _ => ?_ | refine zow ?_ | refine zox ?_ | refine zoz ?_ | refine zoa fun vr lr hr => ?_ | (refine aw_is ?_; first | refine aw_seq ?_ | refine aw_block ?_ | refine aw_region ?_ | refine aw_skip ?_ | refine aw_exit ?_ | refine aw_ret ?_ | refine aw_label ?_ | refine aw_scope ?_ | refine zwt ?_ | refine zwf ?_ | refine zwd ?_) | refine zoT ?_ | refine zqT ?_ | refine zwT ?_ | refine zoF ?_ | refine zqF ?_ | refine zwF ?_ | refine zp ?_ | refine ib_exit ?_ | refine ib_other ?_ | refine zr1 ?_ | refine zr2 ?_ | refine zr3 ?_ | refine zrt ?_ | refine zrc ?_ | refine zrd ?_ | refine zoS (fun _ => ?_) (fun _ => ?_) | refine zqS (fun _ => ?_) (fun _ => ?_) | refine zwS (fun _ => ?_) (fun _ => ?_))
    exact fun w' hw => ⟨rfl, hw.below⟩
end Vec
end Go.Proofs.YteclgkemggmabaaDoor
