/- Walk of layer 4: VectorSums; conditions: the quantities' table as it was laid. -/
import Derived.Test.YteclgkemggmabaaDoorVlaww
namespace Go.Proofs.YteclgkemggmabaaDoor
namespace Vec
open Go Go.RowKit Sx Wid Lab
attribute [local irreducible] Go.Calls

theorem both_ex {less : Bool} {es fs : List Ent} (hw : wfV es) (h2 : rightV fs = true) : (∃ o, bothL less es es fs = some o) ↔ ∀ m, inR (opI less (getV es m) (getV fs m)) = true := by
  constructor
  · rintro ⟨o, ho⟩ m
    by_cases hx : ∃ e ∈ fs, e.1 = m
    · obtain ⟨e, he, rfl⟩ := hx
      rw [get_mem (right_rise h2) he]
      exact both_in ho e he
    · rw [get_none (v := fs) fun e he h => hx ⟨e, he, h⟩, op_x0]
      exact inR_of (get_inW hw m)
  · intro h
    exact both_some es fun e he => by
      have := h e.1
      rwa [get_mem (right_rise h2) he] at this
/-- What a sum, or a difference, is, that there is. -/
theorem comb_is {less : Bool} {es fs o : List Ent} (hw : wfV es) (h1 : rightV es = true) (h2 : rightV fs = true) (h3 : rightV o = true) (hwo : wfV o) (h : ∀ m, getV o m = opI less (getV es m) (getV fs m)) : combV less es fs = (o, 0) := by
  obtain ⟨q, hq⟩ := (both_ex (less := less) hw h2).2 fun m => by rw [← h]; exact inR_of (get_inW hwo m)
  obtain ⟨r1, r2, r3⟩ := both_right h1 h2 hq
  have : q = o := rise_ext r2 (right_rise h3) (fun e he => (right_ok r1 he).2) (fun e he => (right_ok h3 he).2) fun m => by rw [r3, h]
  subst this
  unfold combV
  rw [h1, h2, hq]
  rfl
theorem comb_gets {less : Bool} {es fs : List Ent} (h : (combV less es fs).2 = 0) : rightV es = true ∧ rightV fs = true ∧ rightV (combV less es fs).1 = true ∧ ∀ m, getV (combV less es fs).1 m = opI less (getV es m) (getV fs m) := by
  obtain ⟨h1, h2, hb⟩ := comb_ok h
  obtain ⟨r1, -, r3⟩ := both_right h1 h2 hb
  exact ⟨h1, h2, r1, r3⟩
theorem comb_err {less : Bool} {es fs : List Ent} (h : (combV less es fs).2 ≠ 0) : (combV less es fs).1 = [] := by
  unfold combV at h ⊢
  split
  · rename_i hr
    rw [if_pos hr] at h
    cases hb : bothL less es es fs with
    | none => rfl
    | some o => rw [hb] at h; exact absurd rfl h
  · rfl
theorem op_add (x y : Int) : opI false x y = x + y := rfl
theorem op_sub (x y : Int) : opI true x y = x - y := rfl
theorem comb_comm {es fs : List Ent} (hw1 : wfV es) (hw2 : wfV fs) (l1 : es.length ≤ 400) (l2 : fs.length ≤ 400) : combV false es fs = combV false fs es := by
  by_cases h1 : rightV es = true
  · by_cases h2 : rightV fs = true
    · by_cases hx : (combV false es fs).2 = 0
      · obtain ⟨-, -, r3, r4⟩ := comb_gets hx
        have := comb_is (less := false) (es := fs) (fs := es) (o := (combV false es fs).1) hw2 h2 h1 r3 (wf_comb hw1 hw2 l1 l2).1 fun m => by rw [r4, op_add, op_add]; omega
        rw [this, ← hx]
      · by_cases hy : (combV false fs es).2 = 0
        · exfalso
          obtain ⟨-, -, r3, r4⟩ := comb_gets hy
          have := comb_is (less := false) (es := es) (fs := fs) (o := (combV false fs es).1) hw1 h1 h2 r3 (wf_comb hw2 hw1 l2 l1).1 fun m => by rw [r4, op_add, op_add]; omega
          rw [this] at hx
          exact hx rfl
        · have e1 := comb_err hx
          have e2 := comb_err hy
          have key : ∀ {us ts : List Ent}, rightV us = true → rightV ts = true → (combV false us ts).2 ≠ 0 → (combV false us ts).2 = 3 := fun {us ts} a b h => by
            unfold combV at h ⊢
            rw [a, b, Bool.and_self, if_pos rfl] at h ⊢
            cases hb : bothL false us us ts with
            | none => rfl
            | some o => rw [hb] at h; exact absurd rfl h
          exact Prod.ext (e1.trans e2.symm) ((key h1 h2 hx).trans (key h2 h1 hy).symm)
    · have h2 : rightV fs = false := by simpa using h2
      unfold combV
      rw [h2, Bool.and_false, Bool.false_and]
      rfl
  · have h1 : rightV es = false := by simpa using h1
    unfold combV
    rw [h1, Bool.and_false, Bool.false_and]
    rfl
theorem sub_back {es fs : List Ent} (hw1 : wfV es) (hw2 : wfV fs) (l1 : es.length ≤ 400) (l2 : fs.length ≤ 400) (h : (combV false es fs).2 = 0) : combV true (combV false es fs).1 fs = (es, 0) ∧ combV true (combV false es fs).1 es = (fs, 0) := by
  obtain ⟨h1, h2, r3, r4⟩ := comb_gets h
  have hwx := (wf_comb (less := false) hw1 hw2 l1 l2).1
  exact ⟨comb_is hwx r3 h2 h1 hw1 fun m => by rw [r4, op_add, op_sub]; omega, comb_is hwx r3 h1 h2 hw2 fun m => by rw [r4, op_add, op_sub]; omega⟩
theorem assoc {es fs gs : List Ent} (h1 : (combV false es fs).2 = 0) (h2 : (combV false (combV false es fs).1 gs).2 = 0) (h3 : (combV false fs gs).2 = 0) (h4 : (combV false es (combV false fs gs).1).2 = 0) :
    (combV false (combV false es fs).1 gs).1 = (combV false es (combV false fs gs).1).1 := by
  obtain ⟨-, -, -, r1⟩ := comb_gets h1
  obtain ⟨-, -, s2, r2⟩ := comb_gets h2
  obtain ⟨-, -, -, r3⟩ := comb_gets h3
  obtain ⟨-, -, s4, r4⟩ := comb_gets h4
  exact rise_ext (right_rise s2) (right_rise s4) (fun e he => (right_ok s2 he).2) (fun e he => (right_ok s4 he).2) fun m => by rw [r2, r1, r4, r3, op_add, op_add, op_add, op_add]; omega

set_option maxHeartbeats 32000000 in
theorem sums_ok (va vb vc : Value) (es fs gs : List Ent) (he : ∀ e ∈ es, inW e.2) (hf : ∀ e ∈ fs, inW e.2) (hg : ∀ e ∈ gs, inW e.2) (w : World) (hG : Qty.GlS w) (hva : VecCap w va es) (hvb : VecCap w vb fs) (hvc : VecCap w vc gs) :
    Calls Tryd.prog 5 #[.agg #[va, vb, vc]] w fun e w' => e = .returned (.bool true) ∧ Below w.heap.size w w' := by
  refine calls1 (args := [.agg #[va, vb, vc]]) Tryd.func5 rfl rfl rfl rfl ?_
  have hf1 : ∀ w' b, Below w.heap.size w w' → fitL es = b → Calls Tryd.prog 7 #[va] w' fun e w'' => e = .returned (.bool b) ∧ Below w'.heap.size w' w'' := fun w' b hb h => h ▸ fitl_ok va es w' (hva.vec.below hb)
  have hf2 : ∀ w' b, Below w.heap.size w w' → fitL fs = b → Calls Tryd.prog 7 #[vb] w' fun e w'' => e = .returned (.bool b) ∧ Below w'.heap.size w' w'' := fun w' b hb h => h ▸ fitl_ok vb fs w' (hvb.vec.below hb)
  have hf3 : ∀ w' b, Below w.heap.size w w' → fitL gs = b → Calls Tryd.prog 7 #[vc] w' fun e w'' => e = .returned (.bool b) ∧ Below w'.heap.size w' w'' := fun w' b hb h => h ▸ fitl_ok vc gs w' (hvc.vec.below hb)
  repeat' (first | refine ao_nil ?_ | refine aq_nil ?_ | refine zov ?_ | refine zqv ?_ | refine zok ?_ | refine zqk ?_ | refine zon fun _ => ?_ | refine zow ?_ | refine zox ?_ | refine zoz ?_ | refine zoa fun vr lr hr => ?_ | (refine aw_is ?_; first | refine aw_seq ?_ | refine aw_block ?_ | refine aw_region ?_ | refine aw_skip ?_ | refine aw_exit ?_ | refine aw_ret ?_ | refine aw_label ?_ | refine aw_scope ?_ | refine zwt ?_ | refine zwf ?_ | refine zwd ?_) | refine zoT ?_ | refine zqT ?_ | refine zwT ?_ | refine zoF ?_ | refine zqF ?_ | refine zwF ?_ | refine zp ?_ | refine ib_exit ?_ | refine ib_other ?_ | refine zr1 ?_ | refine zr2 ?_ | refine zr3 ?_ | refine zrt ?_ | refine zrc ?_ | refine zrd ?_ | refine zoS (fun _ => ?_) (fun _ => ?_) | refine zqS (fun _ => ?_) (fun _ => ?_) | refine zwS (fun _ => ?_) (fun _ => ?_))
  refine aw_for (t0 := [(1, .pointer (some ⟨_, 0, none⟩)), (3, I (0 : Nat))]) (fun q t H => ∃ (b i : Nat), q = 3 - i ∧ i ≤ 3 ∧ (1 ≤ i → fitL es = true) ∧ (2 ≤ i → fitL fs = true) ∧ (3 ≤ i → fitL gs = true) ∧ t = [(1, .pointer (some ⟨b, 0, none⟩)), (3, I i)] ∧ H = [(b, .cells #[va, vb, vc] 47)]) ⟨_, 0, rfl, by omega, fun h => by omega, fun h => by omega, fun h => by omega, rfl, rfl⟩ (by repeat (first | exact sub_nil | refine sub_cons rfl ?_)) ?_
  rintro q t H ⟨b, i, rfl, hi, p1, p2, p3, rfl, rfl⟩
  rcases (show i = 0 ∨ i = 1 ∨ i = 2 ∨ i = 3 by omega) with rfl | rfl | rfl | rfl
  · cases h1 : fitL es
    · repeat' (first | refine ao_nil ?_ | refine aq_nil ?_ | refine zov ?_ | refine zqv ?_ | refine zok ?_ | refine zqk ?_ | refine zon fun _ => ?_ | refine zow ?_ | refine zox ?_ | refine zoz ?_ | refine zoa fun vr lr hr => ?_ | ((first | apply ao_call | apply aq_call); exact wants_a; (first | exact oc_func rfl | exact oc_clos rfl rfl); (exact rfl); (first | exact fun w hw => hf1 w _ hw.below h1 | exact fun w hw => alive_ok w (hG.below hw.below))) | (refine aw_is ?_; first | refine aw_seq ?_ | refine aw_block ?_ | refine aw_region ?_ | refine aw_skip ?_ | refine aw_exit ?_ | refine aw_ret ?_ | refine aw_label ?_ | refine aw_scope ?_ | refine zwt ?_ | refine zwf ?_ | refine zwd ?_) | refine zoT ?_ | refine zqT ?_ | refine zwT ?_ | refine zoF ?_ | refine zqF ?_ | refine zwF ?_ | refine zp ?_ | refine ib_exit ?_ | refine ib_other ?_ | refine zr1 ?_ | refine zr2 ?_ | refine zr3 ?_ | refine zrt ?_ | refine zrc ?_ | refine zrd ?_ | refine zoS (fun _ => ?_) (fun _ => ?_) | refine zqS (fun _ => ?_) (fun _ => ?_) | refine zwS (fun _ => ?_) (fun _ => ?_))
      exact fun w' hw => ⟨rfl, hw.below⟩
    · repeat' (first | refine ao_nil ?_ | refine aq_nil ?_ | refine zov ?_ | refine zqv ?_ | refine zok ?_ | refine zqk ?_ | refine zon fun _ => ?_ | refine zow ?_ | refine zox ?_ | refine zoz ?_ | refine zoa fun vr lr hr => ?_ | ((first | apply ao_call | apply aq_call); exact wants_a; (first | exact oc_func rfl | exact oc_clos rfl rfl); (exact rfl); (first | exact fun w hw => hf1 w _ hw.below h1)) | (refine aw_is ?_; first | refine aw_seq ?_ | refine aw_block ?_ | refine aw_region ?_ | refine aw_skip ?_ | refine aw_exit ?_ | refine aw_ret ?_ | refine aw_label ?_ | refine aw_scope ?_ | refine zwt ?_ | refine zwf ?_ | refine zwd ?_) | refine zoT ?_ | refine zqT ?_ | refine zwT ?_ | refine zoF ?_ | refine zqF ?_ | refine zwF ?_ | refine zp ?_ | refine ib_exit ?_ | refine ib_other ?_ | refine zr1 ?_ | refine zr2 ?_ | refine zr3 ?_ | refine zrt ?_ | refine zrc ?_ | refine zrd ?_ | refine zoS (fun _ => ?_) (fun _ => ?_) | refine zqS (fun _ => ?_) (fun _ => ?_) | refine zwS (fun _ => ?_) (fun _ => ?_))
      exact lq_normal ⟨b, 1, rfl, by omega, fun _ => rfl, fun h => by omega, fun h => by omega, rfl, rfl⟩ (by omega) (by repeat (first | exact sub_nil | refine sub_cons rfl ?_))
  · cases h2 : fitL fs
    · repeat' (first | refine ao_nil ?_ | refine aq_nil ?_ | refine zov ?_ | refine zqv ?_ | refine zok ?_ | refine zqk ?_ | refine zon fun _ => ?_ | refine zow ?_ | refine zox ?_ | refine zoz ?_ | refine zoa fun vr lr hr => ?_ | ((first | apply ao_call | apply aq_call); exact wants_a; (first | exact oc_func rfl | exact oc_clos rfl rfl); (exact rfl); (first | exact fun w hw => hf2 w _ hw.below h2 | exact fun w hw => alive_ok w (hG.below hw.below))) | (refine aw_is ?_; first | refine aw_seq ?_ | refine aw_block ?_ | refine aw_region ?_ | refine aw_skip ?_ | refine aw_exit ?_ | refine aw_ret ?_ | refine aw_label ?_ | refine aw_scope ?_ | refine zwt ?_ | refine zwf ?_ | refine zwd ?_) | refine zoT ?_ | refine zqT ?_ | refine zwT ?_ | refine zoF ?_ | refine zqF ?_ | refine zwF ?_ | refine zp ?_ | refine ib_exit ?_ | refine ib_other ?_ | refine zr1 ?_ | refine zr2 ?_ | refine zr3 ?_ | refine zrt ?_ | refine zrc ?_ | refine zrd ?_ | refine zoS (fun _ => ?_) (fun _ => ?_) | refine zqS (fun _ => ?_) (fun _ => ?_) | refine zwS (fun _ => ?_) (fun _ => ?_))
      exact fun w' hw => ⟨rfl, hw.below⟩
    · repeat' (first | refine ao_nil ?_ | refine aq_nil ?_ | refine zov ?_ | refine zqv ?_ | refine zok ?_ | refine zqk ?_ | refine zon fun _ => ?_ | refine zow ?_ | refine zox ?_ | refine zoz ?_ | refine zoa fun vr lr hr => ?_ | ((first | apply ao_call | apply aq_call); exact wants_a; (first | exact oc_func rfl | exact oc_clos rfl rfl); (exact rfl); (first | exact fun w hw => hf2 w _ hw.below h2)) | (refine aw_is ?_; first | refine aw_seq ?_ | refine aw_block ?_ | refine aw_region ?_ | refine aw_skip ?_ | refine aw_exit ?_ | refine aw_ret ?_ | refine aw_label ?_ | refine aw_scope ?_ | refine zwt ?_ | refine zwf ?_ | refine zwd ?_) | refine zoT ?_ | refine zqT ?_ | refine zwT ?_ | refine zoF ?_ | refine zqF ?_ | refine zwF ?_ | refine zp ?_ | refine ib_exit ?_ | refine ib_other ?_ | refine zr1 ?_ | refine zr2 ?_ | refine zr3 ?_ | refine zrt ?_ | refine zrc ?_ | refine zrd ?_ | refine zoS (fun _ => ?_) (fun _ => ?_) | refine zqS (fun _ => ?_) (fun _ => ?_) | refine zwS (fun _ => ?_) (fun _ => ?_))
      exact lq_normal ⟨b, 2, rfl, by omega, fun _ => p1 (by omega), fun _ => rfl, fun h => by omega, rfl, rfl⟩ (by omega) (by repeat (first | exact sub_nil | refine sub_cons rfl ?_))
  · cases h3 : fitL gs
    · repeat' (first | refine ao_nil ?_ | refine aq_nil ?_ | refine zov ?_ | refine zqv ?_ | refine zok ?_ | refine zqk ?_ | refine zon fun _ => ?_ | refine zow ?_ | refine zox ?_ | refine zoz ?_ | refine zoa fun vr lr hr => ?_ | ((first | apply ao_call | apply aq_call); exact wants_a; (first | exact oc_func rfl | exact oc_clos rfl rfl); (exact rfl); (first | exact fun w hw => hf3 w _ hw.below h3 | exact fun w hw => alive_ok w (hG.below hw.below))) | (refine aw_is ?_; first | refine aw_seq ?_ | refine aw_block ?_ | refine aw_region ?_ | refine aw_skip ?_ | refine aw_exit ?_ | refine aw_ret ?_ | refine aw_label ?_ | refine aw_scope ?_ | refine zwt ?_ | refine zwf ?_ | refine zwd ?_) | refine zoT ?_ | refine zqT ?_ | refine zwT ?_ | refine zoF ?_ | refine zqF ?_ | refine zwF ?_ | refine zp ?_ | refine ib_exit ?_ | refine ib_other ?_ | refine zr1 ?_ | refine zr2 ?_ | refine zr3 ?_ | refine zrt ?_ | refine zrc ?_ | refine zrd ?_ | refine zoS (fun _ => ?_) (fun _ => ?_) | refine zqS (fun _ => ?_) (fun _ => ?_) | refine zwS (fun _ => ?_) (fun _ => ?_))
      exact fun w' hw => ⟨rfl, hw.below⟩
    · repeat' (first | refine ao_nil ?_ | refine aq_nil ?_ | refine zov ?_ | refine zqv ?_ | refine zok ?_ | refine zqk ?_ | refine zon fun _ => ?_ | refine zow ?_ | refine zox ?_ | refine zoz ?_ | refine zoa fun vr lr hr => ?_ | ((first | apply ao_call | apply aq_call); exact wants_a; (first | exact oc_func rfl | exact oc_clos rfl rfl); (exact rfl); (first | exact fun w hw => hf3 w _ hw.below h3)) | (refine aw_is ?_; first | refine aw_seq ?_ | refine aw_block ?_ | refine aw_region ?_ | refine aw_skip ?_ | refine aw_exit ?_ | refine aw_ret ?_ | refine aw_label ?_ | refine aw_scope ?_ | refine zwt ?_ | refine zwf ?_ | refine zwd ?_) | refine zoT ?_ | refine zqT ?_ | refine zwT ?_ | refine zoF ?_ | refine zqF ?_ | refine zwF ?_ | refine zp ?_ | refine ib_exit ?_ | refine ib_other ?_ | refine zr1 ?_ | refine zr2 ?_ | refine zr3 ?_ | refine zrt ?_ | refine zrc ?_ | refine zrd ?_ | refine zoS (fun _ => ?_) (fun _ => ?_) | refine zqS (fun _ => ?_) (fun _ => ?_) | refine zwS (fun _ => ?_) (fun _ => ?_))
      exact lq_normal ⟨b, 3, rfl, by omega, fun _ => p1 (by omega), fun _ => p2 (by omega), fun _ => rfl, rfl, rfl⟩ (by omega) (by repeat (first | exact sub_nil | refine sub_cons rfl ?_))
  obtain ⟨w1, l1⟩ := wf_lit (p1 (by omega)) he
  obtain ⟨w2, l2⟩ := wf_lit (p2 (by omega)) hf
  obtain ⟨w3, l3⟩ := wf_lit (p3 (by omega)) hg
  obtain ⟨wx, lx⟩ := wf_comb (less := false) w1 w2 (by omega) (by omega)
  have c1 := fun w' (hb : Below w.heap.size w w') => padd_ok va vb es fs w1 w2 (by omega) (by omega) w' (hva.below hb) (hvb.below hb)
  have c2 := fun w' (hb : Below w.heap.size w w') => padd_ok vb va fs es w2 w1 (by omega) (by omega) w' (hvb.below hb) (hva.below hb)
  rw [← comb_comm w1 w2 (by omega) (by omega)] at c2
  have s1 := fun w' v u (h1 : VecAt w' v (combV false es fs).1) (h2 : VecAt w' u (combV false es fs).1) => vsame_ok v u _ _ wx wx w' h1 h2
  rw [beq_same] at s1
  by_cases hE : (combV false es fs).2 = 0
  · rw [hE] at c1 c2
    obtain ⟨b1, b2⟩ := sub_back w1 w2 (by omega) (by omega) hE
    obtain ⟨g1, g2, g3, g4⟩ := comb_gets hE
    have c3 := fun w' v (hv : VecCap w' v (combV false es fs).1) (hb : Below w.heap.size w w') => psub_ok v vb (combV false es fs).1 fs wx w2 (by omega) (by omega) w' hv (hvb.below hb)
    have c4 := fun w' v (hv : VecCap w' v (combV false es fs).1) (hb : Below w.heap.size w w') => psub_ok v va (combV false es fs).1 es wx w1 (by omega) (by omega) w' hv (hva.below hb)
    rw [b1] at c3
    rw [b2] at c4
    simp only at c3 c4
    have s3 := fun w' v (h1 : VecAt w' v es) (hb : Below w.heap.size w w') => vsame_ok v va es es w1 w1 w' h1 (hva.vec.below hb)
    have s4 := fun w' v (h1 : VecAt w' v fs) (hb : Below w.heap.size w w') => vsame_ok v vb fs fs w2 w2 w' h1 (hvb.vec.below hb)
    rw [beq_same] at s3 s4
    have c5 := fun w' v (hv : VecAt w' v (combV false es fs).1) => pright_ok v (combV false es fs).1 wx w' hv
    rw [g3] at c5
    have cg1 := fun w' v m (hv : VecAt w' v (combV false es fs).1) => pget_ok v (combV false es fs).1 m wx w' hv
    have c6 := fun w' v (hv : VecCap w' v (combV false es fs).1) (hb : Below w.heap.size w w') => padd_ok v vc (combV false es fs).1 gs wx w3 (by omega) (by omega) w' hv (hvc.below hb)
    have c7 := fun w' (hb : Below w.heap.size w w') => padd_ok vb vc fs gs w2 w3 (by omega) (by omega) w' (hvb.below hb) (hvc.below hb)
    obtain ⟨wz, lz⟩ := wf_comb (less := false) w2 w3 (by omega) (by omega)
    have c8 := fun w' v (hb : Below w.heap.size w w') (hv : VecCap w' v (combV false fs gs).1) => padd_ok va v es (combV false fs gs).1 w1 wz (by omega) (by omega) w' (hva.below hb) hv
    obtain ⟨ww, lw⟩ := wf_comb (less := false) wx w3 (by omega) (by omega)
    obtain ⟨wo, lo⟩ := wf_comb (less := false) w1 wz (by omega) (by omega)
    have hass := assoc (es := es) (fs := fs) (gs := gs) hE
    have s5 := fun w' v u (h1 : VecAt w' v (combV false (combV false es fs).1 gs).1) (h2 : VecAt w' u (combV false es (combV false fs gs).1).1) => vsame_ok v u _ _ ww wo w' h1 h2
    generalize combV false (combV false es fs).1 gs = cw at c6 hass s5 ww lw
    generalize combV false es (combV false fs gs).1 = co at c8 hass s5 wo lo
    generalize combV false fs gs = cz at c7 c8 hass wz lz
    generalize (combV false es fs).1 = x at *
    obtain ⟨cw1, cw2⟩ := cw
    obtain ⟨co1, co2⟩ := co
    obtain ⟨cz1, cz2⟩ := cz
    simp only at c6 c7 c8 hass s5 ww lw wo lo wz lz
    repeat' (first | refine ao_nil ?_ | refine aq_nil ?_ | refine zov ?_ | refine zqv ?_ | refine zok ?_ | refine zqk ?_ | refine zon fun _ => ?_ | refine zow ?_ | refine zox ?_ | refine zoz ?_ | refine zoa fun vr lr hr => ?_ | (apply ao_callr2; exact wants_a; (exact oc_func rfl); (exact rfl); (first | exact fun w hw => c1 w hw.below); intro vr lr hr) | (refine aw_is ?_; first | refine aw_seq ?_ | refine aw_block ?_ | refine aw_region ?_ | refine aw_skip ?_ | refine aw_exit ?_ | refine aw_ret ?_ | refine aw_label ?_ | refine aw_scope ?_ | refine zwt ?_ | refine zwf ?_ | refine zwd ?_) | refine zoT ?_ | refine zqT ?_ | refine zwT ?_ | refine zoF ?_ | refine zqF ?_ | refine zwF ?_ | refine zp ?_ | refine ib_exit ?_ | refine ib_other ?_ | refine zr1 ?_ | refine zr2 ?_ | refine zr3 ?_ | refine zrt ?_ | refine zrc ?_ | refine zrd ?_ | refine zoS (fun _ => ?_) (fun _ => ?_) | refine zqS (fun _ => ?_) (fun _ => ?_) | refine zwS (fun _ => ?_) (fun _ => ?_))
    revert vr lr hr
    intro v1 k1 q1
    repeat' (first | refine ao_nil ?_ | refine aq_nil ?_ | refine zov ?_ | refine zqv ?_ | refine zok ?_ | refine zqk ?_ | refine zon fun _ => ?_ | refine zow ?_ | refine zox ?_ | refine zoz ?_ | refine zoa fun vr lr hr => ?_ | (apply ao_callr2; exact wants_a; (exact oc_func rfl); (exact rfl); (first | exact fun w hw => c2 w hw.below); intro vr lr hr) | (refine aw_is ?_; first | refine aw_seq ?_ | refine aw_block ?_ | refine aw_region ?_ | refine aw_skip ?_ | refine aw_exit ?_ | refine aw_ret ?_ | refine aw_label ?_ | refine aw_scope ?_ | refine zwt ?_ | refine zwf ?_ | refine zwd ?_) | refine zoT ?_ | refine zqT ?_ | refine zwT ?_ | refine zoF ?_ | refine zqF ?_ | refine zwF ?_ | refine zp ?_ | refine ib_exit ?_ | refine ib_other ?_ | refine zr1 ?_ | refine zr2 ?_ | refine zr3 ?_ | refine zrt ?_ | refine zrc ?_ | refine zrd ?_ | refine zoS (fun _ => ?_) (fun _ => ?_) | refine zqS (fun _ => ?_) (fun _ => ?_) | refine zwS (fun _ => ?_) (fun _ => ?_))
    revert vr lr hr
    intro v2 k2 q2
    obtain ⟨ax, cx, rfl⟩ := q1.len
    repeat' (first | refine ao_nil ?_ | refine aq_nil ?_ | refine zov ?_ | refine zqv ?_ | refine zok ?_ | refine zqk ?_ | refine zon fun _ => ?_ | refine zow ?_ | refine zox ?_ | refine zoz ?_ | refine zoa fun vr lr hr => ?_ | ((first | apply ao_call | apply aq_call); exact wants_a; (first | exact oc_func rfl | exact oc_clos rfl rfl); (exact rfl); (first | (intro w hw; refine s1 w _ v2 ?_ ?_; exact hw.oldr q1 cut_a; exact hw.oldr q2 cut_a))) | (apply ao_callr2; exact wants_a; (exact oc_func rfl); (exact rfl); (first | (intro w hw; refine c3 w _ ?_ ?_; exact RepH.capr hw q1 cut_a; exact hw.below)); intro vr lr hr) | (refine aw_is ?_; first | refine aw_seq ?_ | refine aw_block ?_ | refine aw_region ?_ | refine aw_skip ?_ | refine aw_exit ?_ | refine aw_ret ?_ | refine aw_label ?_ | refine aw_scope ?_ | refine zwt ?_ | refine zwf ?_ | refine zwd ?_) | refine zoT ?_ | refine zqT ?_ | refine zwT ?_ | refine zoF ?_ | refine zqF ?_ | refine zwF ?_ | refine zp ?_ | refine ib_exit ?_ | refine ib_other ?_ | refine zr1 ?_ | refine zr2 ?_ | refine zr3 ?_ | refine zrt ?_ | refine zrc ?_ | refine zrd ?_ | refine zoS (fun _ => ?_) (fun _ => ?_) | refine zqS (fun _ => ?_) (fun _ => ?_) | refine zwS (fun _ => ?_) (fun _ => ?_))
    revert vr lr hr
    intro v3 k3 q3
    repeat' (first | refine ao_nil ?_ | refine aq_nil ?_ | refine zov ?_ | refine zqv ?_ | refine zok ?_ | refine zqk ?_ | refine zon fun _ => ?_ | refine zow ?_ | refine zox ?_ | refine zoz ?_ | refine zoa fun vr lr hr => ?_ | (apply ao_callr2; exact wants_a; (exact oc_func rfl); (exact rfl); (first | (intro w hw; refine c4 w _ ?_ ?_; exact RepH.capr hw q1 cut_a; exact hw.below)); intro vr lr hr) | (refine aw_is ?_; first | refine aw_seq ?_ | refine aw_block ?_ | refine aw_region ?_ | refine aw_skip ?_ | refine aw_exit ?_ | refine aw_ret ?_ | refine aw_label ?_ | refine aw_scope ?_ | refine zwt ?_ | refine zwf ?_ | refine zwd ?_) | refine zoT ?_ | refine zqT ?_ | refine zwT ?_ | refine zoF ?_ | refine zqF ?_ | refine zwF ?_ | refine zp ?_ | refine ib_exit ?_ | refine ib_other ?_ | refine zr1 ?_ | refine zr2 ?_ | refine zr3 ?_ | refine zrt ?_ | refine zrc ?_ | refine zrd ?_ | refine zoS (fun _ => ?_) (fun _ => ?_) | refine zqS (fun _ => ?_) (fun _ => ?_) | refine zwS (fun _ => ?_) (fun _ => ?_))
    revert vr lr hr
    intro v4 k4 q4
    repeat' (first | refine ao_nil ?_ | refine aq_nil ?_ | refine zov ?_ | refine zqv ?_ | refine zok ?_ | refine zqk ?_ | refine zon fun _ => ?_ | refine zow ?_ | refine zox ?_ | refine zoz ?_ | refine zoa fun vr lr hr => ?_ | ((first | apply ao_call | apply aq_call); exact wants_a; (first | exact oc_func rfl | exact oc_clos rfl rfl); (exact rfl); (first | (intro w hw; refine s3 w v3 ?_ ?_; exact hw.oldr q3 cut_a; exact hw.below) | (intro w hw; refine s4 w v4 ?_ ?_; exact hw.oldr q4 cut_a; exact hw.below) | (intro w hw; refine c5 w _ ?_; exact hw.oldr q1 cut_a))) | (refine aw_is ?_; first | refine aw_seq ?_ | refine aw_block ?_ | refine aw_region ?_ | refine aw_skip ?_ | refine aw_exit ?_ | refine aw_ret ?_ | refine aw_label ?_ | refine aw_scope ?_ | refine zwt ?_ | refine zwf ?_ | refine zwd ?_) | refine zoT ?_ | refine zqT ?_ | refine zwT ?_ | refine zoF ?_ | refine zqF ?_ | refine zwF ?_ | refine zp ?_ | refine ib_exit ?_ | refine ib_other ?_ | refine zr1 ?_ | refine zr2 ?_ | refine zr3 ?_ | refine zrt ?_ | refine zrc ?_ | refine zrd ?_ | refine zoS (fun _ => ?_) (fun _ => ?_) | refine zqS (fun _ => ?_) (fun _ => ?_) | refine zwS (fun _ => ?_) (fun _ => ?_))
    refine aw_forH (t0 := [(1, .pointer (some ⟨b, 0, none⟩)), (5, va), (6, vb), (7, .slice ax x.length cx), (18, I (0 : Nat))]) (H0 := k1 ++ [(b, .cells #[va, vb, vc] 47)]) (fun q t H => ∃ (i : Nat), q = es.length - i ∧ i ≤ es.length ∧ t = [(1, .pointer (some ⟨b, 0, none⟩)), (5, va), (6, vb), (7, .slice ax x.length cx), (18, I i)] ∧ H = k1 ++ [(b, .cells #[va, vb, vc] 47)]) ⟨0, rfl, by omega, rfl, rfl⟩ (by repeat (first | exact sub_nil | refine sub_cons rfl ?_)) hsub_a ?_
    rintro q t H ⟨i, rfl, hi, rfl, rfl⟩
    obtain ⟨a, c, hva', hat⟩ := OldRow.cells cellsE_len hva.vec
    by_cases hlt : i < es.length
    · obtain ⟨e, hei⟩ := getI hlt
      obtain ⟨g, o, rfl, hg, hc⟩ := hat i e (i : Int) hei rfl
      obtain ⟨c0, -, -, cW, -⟩ := ent_cells hc
      have hwe := w1.at hei
      have hgw := get_inW w2 e.1
      have hge := get_mem (right_rise g1) (List.mem_of_getElem? hei)
      have hgx := g4 e.1
      rw [op_add, hge] at hgx
      have hgin : inW (e.2 + getV fs e.1) := by rw [← hgx]; exact get_inW wx e.1
      have hget : ∀ w', Below w.heap.size w w' → _ := fun w' hb => pget_ok vb fs e.1 w2 w' (hvb.vec.below hb)
      have hadd := fun w' => raddV e.2 (getV fs e.1) hwe.2 hgw w'
      rw [show sumV (e.2 + getV fs e.1) = .tuple #[WV (e.2 + getV fs e.1), .bool true] by unfold sumV; rw [decide_eq_true hgin]] at hadd
      have hgetx := fun w' hv => cg1 w' (.slice ax x.length cx) e.1 hv
      rw [hgx] at hgetx
      subst hva'
      repeat' (first | (apply ao_nilh; exact hsub_a) | apply ao_nil | apply aq_nil | apply ah_end | ((first | apply ao_val | apply aq_val | (apply ah_take; (exact rfl))); exact wants_a; (first | exact ov_load_oa rfl hg cW rfl | exact ov_a); (exact rfl)) | ((first | apply ao_skip | apply aq_skip | (apply ah_skip; (exact rfl))); exact nots_a; (exact rfl)) | (refine ao_is ?_; first | (apply ao_new; exact wants_a; exact on_a; (exact rfl); intro _) | (apply ao_store; exact wants_a; exact ow_a; exact upd_a) | (apply ao_valw; exact wants_a; exact ox_a; (exact rfl); exact upd_a) | (apply ao_skip0; exact nots_a) | (apply ao_append; exact wants_a; (exact rfl); assumption; (exact rfl); exact cut_a; exact has_a; (exact rfl); (exact rfl); omega; omega; omega; (exact rfl); intro vr lr hr)) | ((first | apply ao_call | apply aq_call); exact wants_a; (first | exact oc_func rfl | exact oc_clos rfl rfl); (exact rfl); (first | exact fun w hw => hget w hw.below | exact fun w hw => hadd w | (intro w hw; refine hgetx w ?_; exact hw.oldr q1 cut_a))) | (apply ah_one; (exact rfl)) | (apply ah_two; (exact rfl); (exact rfl)) | (apply ah_three; (exact rfl); (exact rfl); (exact rfl)) | (refine aw_is ?_; first | (apply aw_held (id := 25) (pl := (.t 0 (.t 1 (.t 2 (.t 3 (.t 4 (.t 5 (.t 6 (.t 7 (.t 8 (.t 9 (.t 10 (.w 11 (.w 12 (.t 13 (.t 14 (.t 15 (.o 16 (.o 17 (.t 18 .e)))))) 16 (.o 12 (.t 13 (.t 14 (.t 15 (.o 17 (.t 18 .e))))))) 16 (.o 11 (.o 12 (.t 13 (.t 14 (.t 15 (.o 17 (.t 18 .e)))))))))))))))))))); (kernel_rfl); (kernel_rfl); (kernel_rfl); (solve | (exact List.Sublist.refl _))) | (apply aw_held (id := 26) (pl := (.t 0 (.t 1 (.t 2 (.t 3 (.t 4 (.t 5 (.t 6 (.t 7 (.t 8 (.t 10 (.o 9 (.t 11 (.t 12 .e)))))))))))))); (kernel_rfl); (kernel_rfl); (kernel_rfl); (solve | (exact List.Sublist.refl _))) | refine aw_seq ?_ | refine aw_block ?_ | refine aw_region ?_ | refine aw_skip ?_ | refine aw_exit ?_ | refine aw_ret ?_ | refine aw_label ?_ | refine aw_scope ?_ | refine aw_cond_t rfl (by with_reducible rfl) ?_ | refine aw_cond_f rfl (by with_reducible rfl) ?_ | refine aw_draw (by kernel_rfl) (by kernel_rfl) ?_) | (first | (refine ah_is ?_; (fail_if_success first | refine ah_glit (b := true) rfl rfl rfl (by with_reducible rfl) ?_ | refine ah_glit (b := false) rfl rfl rfl (by with_reducible rfl) ?_); apply ah_gt; (exact rfl); (exact rfl); (exact rfl); exact t_a) | ((refine ao_is ?_; (fail_if_success first | refine ao_glit (b := true) rfl rfl (by with_reducible rfl) ?_ | refine ao_glit (b := false) rfl rfl (by with_reducible rfl) ?_)); apply ao_gt; (exact rfl); (exact rfl); exact t_a) | ((refine aq_is ?_; (fail_if_success first | refine aq_glit (b := true) rfl rfl (by with_reducible rfl) ?_ | refine aq_glit (b := false) rfl rfl (by with_reducible rfl) ?_)); apply aq_gt; (exact rfl); (exact rfl); exact t_a) | (apply aw_ct; (exact rfl); exact t_a)) | (first | (refine ah_is ?_; (fail_if_success first | refine ah_glit (b := true) rfl rfl rfl (by with_reducible rfl) ?_ | refine ah_glit (b := false) rfl rfl rfl (by with_reducible rfl) ?_); apply ah_gf; (exact rfl); (exact rfl); (exact rfl); exact f_a) | ((refine ao_is ?_; (fail_if_success first | refine ao_glit (b := true) rfl rfl (by with_reducible rfl) ?_ | refine ao_glit (b := false) rfl rfl (by with_reducible rfl) ?_)); apply ao_gf; (exact rfl); (exact rfl); exact f_a) | ((refine aq_is ?_; (fail_if_success first | refine aq_glit (b := true) rfl rfl (by with_reducible rfl) ?_ | refine aq_glit (b := false) rfl rfl (by with_reducible rfl) ?_)); apply aq_gf; (exact rfl); (exact rfl); exact f_a) | (apply aw_cf; (exact rfl); exact f_a)) | refine at_normal ?_ | refine at_exit ?_ | refine at_ret ?_ | refine ib_normal ?_ | refine ib_exit ?_ | refine ib_other ?_ | refine ib_ret ?_ | refine lq_exit ?_ | refine lq_ret ?_ | refine ci_ret ?_ | refine ci_exit ?_ | refine r1_ret rfl ?_ | refine r1_normal rfl ?_ | refine r2_ret rfl rfl ?_ | refine r2_normal rfl rfl ?_ | refine r3_ret rfl rfl rfl ?_ | refine r3_normal rfl rfl rfl ?_ | refine ng_normal ?_ | refine ng_exit ?_ | refine ng_ret ?_ | (apply rt_ret; (exact rfl); (exact rfl); (exact rfl); exact has_a; exact has_a; (exact rfl); (exact rfl)) | (apply rc1_ret; (exact rfl); exact has_a; (exact rfl)) | (apply rc2_ret; (exact rfl); exact has_a; (exact rfl); (exact rfl)) | (refine ao_is ?_; (fail_if_success first | refine ao_glit (b := true) rfl rfl (by with_reducible rfl) ?_ | refine ao_glit (b := false) rfl rfl (by with_reducible rfl) ?_); refine ao_gbool rfl rfl (fun _ => ?_) (fun _ => ?_)) | (refine aq_is ?_; (fail_if_success first | refine aq_glit (b := true) rfl rfl (by with_reducible rfl) ?_ | refine aq_glit (b := false) rfl rfl (by with_reducible rfl) ?_); refine aq_gbool rfl rfl (fun _ => ?_) (fun _ => ?_)) | (refine aw_is ?_; refine aw_cond rfl (fun _ => ?_) (fun _ => ?_)))
      all_goals exact lq_normal' ⟨i + 1, rfl, by omega, rfl, rfl⟩ (by omega) (by repeat (first | exact sub_nil | refine sub_cons rfl ?_)) hsub_a
    · obtain rfl : i = es.length := by omega
      subst hva'
      repeat' (first | refine ao_nil ?_ | refine aq_nil ?_ | refine zov ?_ | refine zqv ?_ | refine zok ?_ | refine zqk ?_ | refine zon fun _ => ?_ | refine zow ?_ | refine zox ?_ | refine zoz ?_ | refine zoa fun vr lr hr => ?_ | (apply ao_callr2; exact wants_a; (exact oc_func rfl); (exact rfl); (first | (intro w hw; refine c6 w _ ?_ ?_; exact RepH.capr hw q1 cut_a; exact hw.below)); intro vr lr hr) | (refine aw_is ?_; first | refine aw_seq ?_ | refine aw_block ?_ | refine aw_region ?_ | refine aw_skip ?_ | refine aw_exit ?_ | refine aw_ret ?_ | refine aw_label ?_ | refine aw_scope ?_ | refine zwt ?_ | refine zwf ?_ | refine zwd ?_) | refine zoT ?_ | refine zqT ?_ | refine zwT ?_ | refine zoF ?_ | refine zqF ?_ | refine zwF ?_ | refine zp ?_ | refine ib_exit ?_ | refine ib_other ?_ | refine zr1 ?_ | refine zr2 ?_ | refine zr3 ?_ | refine zrt ?_ | refine zrc ?_ | refine zrd ?_ | refine zoS (fun _ => ?_) (fun _ => ?_) | refine zqS (fun _ => ?_) (fun _ => ?_) | refine zwS (fun _ => ?_) (fun _ => ?_))
      revert vr lr hr
      intro v6 k6 q6
      repeat' (first | refine ao_nil ?_ | refine aq_nil ?_ | refine zov ?_ | refine zqv ?_ | refine zok ?_ | refine zqk ?_ | refine zon fun _ => ?_ | refine zow ?_ | refine zox ?_ | refine zoz ?_ | refine zoa fun vr lr hr => ?_ | (apply ao_callr2; exact wants_a; (exact oc_func rfl); (exact rfl); (first | exact fun w hw => c7 w hw.below); intro vr lr hr) | (refine aw_is ?_; first | refine aw_seq ?_ | refine aw_block ?_ | refine aw_region ?_ | refine aw_skip ?_ | refine aw_exit ?_ | refine aw_ret ?_ | refine aw_label ?_ | refine aw_scope ?_ | refine zwt ?_ | refine zwf ?_ | refine zwd ?_) | refine zoT ?_ | refine zqT ?_ | refine zwT ?_ | refine zoF ?_ | refine zqF ?_ | refine zwF ?_ | refine zp ?_ | refine ib_exit ?_ | refine ib_other ?_ | refine zr1 ?_ | refine zr2 ?_ | refine zr3 ?_ | refine zrt ?_ | refine zrc ?_ | refine zrd ?_ | refine zoS (fun _ => ?_) (fun _ => ?_) | refine zqS (fun _ => ?_) (fun _ => ?_) | refine zwS (fun _ => ?_) (fun _ => ?_))
      revert vr lr hr
      intro v7 k7 q7
      repeat' (first | refine ao_nil ?_ | refine aq_nil ?_ | refine zov ?_ | refine zqv ?_ | refine zok ?_ | refine zqk ?_ | refine zon fun _ => ?_ | refine zow ?_ | refine zox ?_ | refine zoz ?_ | refine zoa fun vr lr hr => ?_ | (apply ao_callr2; exact wants_a; (exact oc_func rfl); (exact rfl); (first | (intro w hw; refine c8 w _ ?_ ?_; exact hw.below; exact RepH.capr hw q7 cut_a)); intro vr lr hr) | (refine aw_is ?_; first | refine aw_seq ?_ | refine aw_block ?_ | refine aw_region ?_ | refine aw_skip ?_ | refine aw_exit ?_ | refine aw_ret ?_ | refine aw_label ?_ | refine aw_scope ?_ | refine zwt ?_ | refine zwf ?_ | refine zwd ?_) | refine zoT ?_ | refine zqT ?_ | refine zwT ?_ | refine zoF ?_ | refine zqF ?_ | refine zwF ?_ | refine zp ?_ | refine ib_exit ?_ | refine ib_other ?_ | refine zr1 ?_ | refine zr2 ?_ | refine zr3 ?_ | refine zrt ?_ | refine zrc ?_ | refine zrd ?_ | refine zoS (fun _ => ?_) (fun _ => ?_) | refine zqS (fun _ => ?_) (fun _ => ?_) | refine zwS (fun _ => ?_) (fun _ => ?_))
      revert vr lr hr
      intro v8 k8 q8
      by_cases hi0 : cw2 = 0
      · have e1 : (cw2 != 0) = false := by rw [hi0]; rfl
        by_cases hj0 : cz2 = 0
        · have e2 : (cz2 != 0) = false := by rw [hj0]; rfl
          by_cases hk0 : co2 = 0
          · have e3 : (co2 != 0) = false := by rw [hk0]; rfl
            rw [show (cw1 == co1) = true from beq_iff_eq.2 (hass hi0 hj0 hk0)] at s5
            repeat' (first | refine ao_nil ?_ | refine aq_nil ?_ | refine zov ?_ | refine zqv ?_ | refine zok ?_ | refine zqk ?_ | refine zon fun _ => ?_ | refine zow ?_ | refine zox ?_ | refine zoz ?_ | refine zoa fun vr lr hr => ?_ | ((first | apply ao_call | apply aq_call); exact wants_a; (first | exact oc_func rfl | exact oc_clos rfl rfl); (exact rfl); (first | (intro w hw; refine s5 w v6 v8 ?_ ?_; exact hw.oldr q6 cut_a; exact hw.oldr q8 cut_a) | exact fun w hw => alive_ok w (hG.below hw.below))) | (refine aw_is ?_; first | refine aw_seq ?_ | refine aw_block ?_ | refine aw_region ?_ | refine aw_skip ?_ | refine aw_exit ?_ | refine aw_ret ?_ | refine aw_label ?_ | refine aw_scope ?_ | refine zwt ?_ | refine zwf ?_ | refine zwd ?_) | refine zoT ?_ | refine zqT ?_ | refine zwT ?_ | refine zoF ?_ | refine zqF ?_ | refine zwF ?_ | refine zp ?_ | refine ib_exit ?_ | refine ib_other ?_ | refine zr1 ?_ | refine zr2 ?_ | refine zr3 ?_ | refine zrt ?_ | refine zrc ?_ | refine zrd ?_ | refine zoS (fun _ => ?_) (fun _ => ?_) | refine zqS (fun _ => ?_) (fun _ => ?_) | refine zwS (fun _ => ?_) (fun _ => ?_))
            all_goals exact fun w' hw => ⟨rfl, hw.below⟩
          · have e3 : (co2 != 0) = true := bne_iff_ne.2 hk0
            repeat' (first | refine ao_nil ?_ | refine aq_nil ?_ | refine zov ?_ | refine zqv ?_ | refine zok ?_ | refine zqk ?_ | refine zon fun _ => ?_ | refine zow ?_ | refine zox ?_ | refine zoz ?_ | refine zoa fun vr lr hr => ?_ | ((first | apply ao_call | apply aq_call); exact wants_a; (first | exact oc_func rfl | exact oc_clos rfl rfl); (exact rfl); (first | (intro w hw; refine s5 w v6 v8 ?_ ?_; exact hw.oldr q6 cut_a; exact hw.oldr q8 cut_a) | exact fun w hw => alive_ok w (hG.below hw.below))) | (refine aw_is ?_; first | refine aw_seq ?_ | refine aw_block ?_ | refine aw_region ?_ | refine aw_skip ?_ | refine aw_exit ?_ | refine aw_ret ?_ | refine aw_label ?_ | refine aw_scope ?_ | refine zwt ?_ | refine zwf ?_ | refine zwd ?_) | refine zoT ?_ | refine zqT ?_ | refine zwT ?_ | refine zoF ?_ | refine zqF ?_ | refine zwF ?_ | refine zp ?_ | refine ib_exit ?_ | refine ib_other ?_ | refine zr1 ?_ | refine zr2 ?_ | refine zr3 ?_ | refine zrt ?_ | refine zrc ?_ | refine zrd ?_ | refine zoS (fun _ => ?_) (fun _ => ?_) | refine zqS (fun _ => ?_) (fun _ => ?_) | refine zwS (fun _ => ?_) (fun _ => ?_))
            all_goals exact fun w' hw => ⟨rfl, hw.below⟩
        · have e2 : (cz2 != 0) = true := bne_iff_ne.2 hj0
          repeat' (first | refine ao_nil ?_ | refine aq_nil ?_ | refine zov ?_ | refine zqv ?_ | refine zok ?_ | refine zqk ?_ | refine zon fun _ => ?_ | refine zow ?_ | refine zox ?_ | refine zoz ?_ | refine zoa fun vr lr hr => ?_ | ((first | apply ao_call | apply aq_call); exact wants_a; (first | exact oc_func rfl | exact oc_clos rfl rfl); (exact rfl); (first | (intro w hw; refine s5 w v6 v8 ?_ ?_; exact hw.oldr q6 cut_a; exact hw.oldr q8 cut_a) | exact fun w hw => alive_ok w (hG.below hw.below))) | (refine aw_is ?_; first | refine aw_seq ?_ | refine aw_block ?_ | refine aw_region ?_ | refine aw_skip ?_ | refine aw_exit ?_ | refine aw_ret ?_ | refine aw_label ?_ | refine aw_scope ?_ | refine zwt ?_ | refine zwf ?_ | refine zwd ?_) | refine zoT ?_ | refine zqT ?_ | refine zwT ?_ | refine zoF ?_ | refine zqF ?_ | refine zwF ?_ | refine zp ?_ | refine ib_exit ?_ | refine ib_other ?_ | refine zr1 ?_ | refine zr2 ?_ | refine zr3 ?_ | refine zrt ?_ | refine zrc ?_ | refine zrd ?_ | refine zoS (fun _ => ?_) (fun _ => ?_) | refine zqS (fun _ => ?_) (fun _ => ?_) | refine zwS (fun _ => ?_) (fun _ => ?_))
          all_goals exact fun w' hw => ⟨rfl, hw.below⟩
      · have e1 : (cw2 != 0) = true := bne_iff_ne.2 hi0
        repeat' (first | refine ao_nil ?_ | refine aq_nil ?_ | refine zov ?_ | refine zqv ?_ | refine zok ?_ | refine zqk ?_ | refine zon fun _ => ?_ | refine zow ?_ | refine zox ?_ | refine zoz ?_ | refine zoa fun vr lr hr => ?_ | ((first | apply ao_call | apply aq_call); exact wants_a; (first | exact oc_func rfl | exact oc_clos rfl rfl); (exact rfl); (first | (intro w hw; refine s5 w v6 v8 ?_ ?_; exact hw.oldr q6 cut_a; exact hw.oldr q8 cut_a) | exact fun w hw => alive_ok w (hG.below hw.below))) | (refine aw_is ?_; first | refine aw_seq ?_ | refine aw_block ?_ | refine aw_region ?_ | refine aw_skip ?_ | refine aw_exit ?_ | refine aw_ret ?_ | refine aw_label ?_ | refine aw_scope ?_ | refine zwt ?_ | refine zwf ?_ | refine zwd ?_) | refine zoT ?_ | refine zqT ?_ | refine zwT ?_ | refine zoF ?_ | refine zqF ?_ | refine zwF ?_ | refine zp ?_ | refine ib_exit ?_ | refine ib_other ?_ | refine zr1 ?_ | refine zr2 ?_ | refine zr3 ?_ | refine zrt ?_ | refine zrc ?_ | refine zrd ?_ | refine zoS (fun _ => ?_) (fun _ => ?_) | refine zqS (fun _ => ?_) (fun _ => ?_) | refine zwS (fun _ => ?_) (fun _ => ?_))
        all_goals exact fun w' hw => ⟨rfl, hw.below⟩
  · have hx0 := comb_err hE
    rw [hx0] at c1 c2 s1
    have hEb : ((combV false es fs).2 != 0) = true := bne_iff_ne.2 hE
    generalize (combV false es fs).2 = e1 at c1 c2 hEb
    have q0 : (e1 != e1) = false := bne_self_eq_false _
    repeat' (first | refine ao_nil ?_ | refine aq_nil ?_ | refine zov ?_ | refine zqv ?_ | refine zok ?_ | refine zqk ?_ | refine zon fun _ => ?_ | refine zow ?_ | refine zox ?_ | refine zoz ?_ | refine zoa fun vr lr hr => ?_ | (apply ao_callr2; exact wants_a; (exact oc_func rfl); (exact rfl); (first | exact fun w hw => c1 w hw.below); intro vr lr hr) | (refine aw_is ?_; first | refine aw_seq ?_ | refine aw_block ?_ | refine aw_region ?_ | refine aw_skip ?_ | refine aw_exit ?_ | refine aw_ret ?_ | refine aw_label ?_ | refine aw_scope ?_ | refine zwt ?_ | refine zwf ?_ | refine zwd ?_) | refine zoT ?_ | refine zqT ?_ | refine zwT ?_ | refine zoF ?_ | refine zqF ?_ | refine zwF ?_ | refine zp ?_ | refine ib_exit ?_ | refine ib_other ?_ | refine zr1 ?_ | refine zr2 ?_ | refine zr3 ?_ | refine zrt ?_ | refine zrc ?_ | refine zrd ?_ | refine zoS (fun _ => ?_) (fun _ => ?_) | refine zqS (fun _ => ?_) (fun _ => ?_) | refine zwS (fun _ => ?_) (fun _ => ?_))
    revert vr lr hr
    intro v1 k1 q1
    repeat' (first | refine ao_nil ?_ | refine aq_nil ?_ | refine zov ?_ | refine zqv ?_ | refine zok ?_ | refine zqk ?_ | refine zon fun _ => ?_ | refine zow ?_ | refine zox ?_ | refine zoz ?_ | refine zoa fun vr lr hr => ?_ | (apply ao_callr2; exact wants_a; (exact oc_func rfl); (exact rfl); (first | exact fun w hw => c2 w hw.below); intro vr lr hr) | (refine aw_is ?_; first | refine aw_seq ?_ | refine aw_block ?_ | refine aw_region ?_ | refine aw_skip ?_ | refine aw_exit ?_ | refine aw_ret ?_ | refine aw_label ?_ | refine aw_scope ?_ | refine zwt ?_ | refine zwf ?_ | refine zwd ?_) | refine zoT ?_ | refine zqT ?_ | refine zwT ?_ | refine zoF ?_ | refine zqF ?_ | refine zwF ?_ | refine zp ?_ | refine ib_exit ?_ | refine ib_other ?_ | refine zr1 ?_ | refine zr2 ?_ | refine zr3 ?_ | refine zrt ?_ | refine zrc ?_ | refine zrd ?_ | refine zoS (fun _ => ?_) (fun _ => ?_) | refine zqS (fun _ => ?_) (fun _ => ?_) | refine zwS (fun _ => ?_) (fun _ => ?_))
    revert vr lr hr
    intro v2 k2 q2
    obtain ⟨ax, cx, rfl⟩ := q1.len
    have hl0 : ((([] : List Ent).length : Int) == 0) = true := rfl
    repeat' (first | refine ao_nil ?_ | refine aq_nil ?_ | refine zov ?_ | refine zqv ?_ | refine zok ?_ | refine zqk ?_ | refine zon fun _ => ?_ | refine zow ?_ | refine zox ?_ | refine zoz ?_ | refine zoa fun vr lr hr => ?_ | ((first | apply ao_call | apply aq_call); exact wants_a; (first | exact oc_func rfl | exact oc_clos rfl rfl); (exact rfl); (first | (intro w hw; refine s1 w _ v2 ?_ ?_; exact hw.oldr q1 cut_a; exact hw.oldr q2 cut_a) | exact fun w hw => alive_ok w (hG.below hw.below))) | (refine aw_is ?_; first | refine aw_seq ?_ | refine aw_block ?_ | refine aw_region ?_ | refine aw_skip ?_ | refine aw_exit ?_ | refine aw_ret ?_ | refine aw_label ?_ | refine aw_scope ?_ | refine zwt ?_ | refine zwf ?_ | refine zwd ?_) | refine zoT ?_ | refine zqT ?_ | refine zwT ?_ | refine zoF ?_ | refine zqF ?_ | refine zwF ?_ | refine zp ?_ | refine ib_exit ?_ | refine ib_other ?_ | refine zr1 ?_ | refine zr2 ?_ | refine zr3 ?_ | refine zrt ?_ | refine zrc ?_ | refine zrd ?_ | refine zoS (fun _ => ?_) (fun _ => ?_) | refine zqS (fun _ => ?_) (fun _ => ?_) | refine zwS (fun _ => ?_) (fun _ => ?_))
    all_goals exact fun w' hw => ⟨rfl, hw.below⟩
end Vec
end Go.Proofs.YteclgkemggmabaaDoor
