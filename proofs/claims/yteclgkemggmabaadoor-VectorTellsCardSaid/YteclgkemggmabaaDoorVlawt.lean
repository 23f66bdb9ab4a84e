/- Walks of layer 4: what is gone through; VectorTells, VectorMakes; conditions: the quantities' table as it was laid. -/
import Derived.Test.YteclgkemggmabaaDoorVlaw
namespace Go.Proofs.YteclgkemggmabaaDoor
namespace Vec
open Go Go.RowKit Sx Wid Lab
attribute [local irreducible] Go.Calls

/-- Is it gone through? -/
def fitL (es : List Ent) : Bool := decide (es.length ≤ 40) && es.all fun e => decide (e.1.length ≤ 600)
theorem fitL_t {es : List Ent} (h : fitL es = true) : es.length ≤ 40 ∧ ∀ e ∈ es, e.1.length ≤ 600 := by
  simpa [fitL] using h

set_option maxHeartbeats 4000000 in
theorem fitl_ok (v : Value) (es : List Ent) (w : World) (hv : VecAt w v es) : Calls Tryd.prog 7 #[v] w fun e w' => e = .returned (.bool (fitL es)) ∧ Below w.heap.size w w' := by
  obtain ⟨a, c, rfl, hat⟩ := OldRow.cells cellsE_len hv
  refine calls1 (args := [.slice a es.length c]) Tryd.func7 rfl rfl rfl rfl ?_
  by_cases hl : es.length ≤ 40
  · repeat' (first | refine ao_nil ?_ | refine aq_nil ?_ | refine zov ?_ | refine zqv ?_ | refine zok ?_ | refine zqk ?_ | refine zon fun _ => ?_ | refine zow ?_ | refine zox ?_ | refine zoz ?_ | refine zoa fun vr lr hr => ?_ | (refine aw_is ?_; first | refine aw_seq ?_ | refine aw_block ?_ | refine aw_region ?_ | refine aw_skip ?_ | refine aw_exit ?_ | refine aw_ret ?_ | refine aw_label ?_ | refine aw_scope ?_ | refine zwt ?_ | refine zwf ?_ | refine zwd ?_) | refine zoT ?_ | refine zqT ?_ | refine zwT ?_ | refine zoF ?_ | refine zqF ?_ | refine zwF ?_ | refine zp ?_ | refine ib_exit ?_ | refine ib_other ?_ | refine zr1 ?_ | refine zr2 ?_ | refine zr3 ?_ | refine zrt ?_ | refine zrc ?_ | refine zrd ?_ | refine zoS (fun _ => ?_) (fun _ => ?_) | refine zqS (fun _ => ?_) (fun _ => ?_) | refine zwS (fun _ => ?_) (fun _ => ?_))
    refine aw_for (t0 := [(0, .slice a es.length c), (3, I (0 : Nat))]) (fun q t H => ∃ (i : Nat), q = es.length - i ∧ i ≤ es.length ∧ (∀ (j : Nat) (e : Ent), j < i → es[j]? = some e → e.1.length ≤ 600) ∧ t = [(0, .slice a es.length c), (3, I i)] ∧ H = []) ⟨0, rfl, by omega, fun j e h => by omega, rfl, rfl⟩ (by repeat (first | exact sub_nil | refine sub_cons rfl ?_)) ?_
    rintro q t H ⟨i, rfl, hi, hall, rfl, rfl⟩
    by_cases hlt : i < es.length
    · obtain ⟨e, he⟩ := getI hlt
      obtain ⟨g, o, rfl, hg, hc⟩ := hat i e (i : Int) he rfl
      obtain ⟨c0, -, -, -, -⟩ := ent_cells hc
      by_cases h6 : e.1.length ≤ 600
      · repeat' (first | refine ao_nil ?_ | refine aq_nil ?_ | refine zov ?_ | refine zqv ?_ | refine zok ?_ | refine zqk ?_ | refine zon fun _ => ?_ | refine zow ?_ | refine zox ?_ | refine zoz ?_ | refine zoa fun vr lr hr => ?_ | (refine aw_is ?_; first | refine aw_seq ?_ | refine aw_block ?_ | refine aw_region ?_ | refine aw_skip ?_ | refine aw_exit ?_ | refine aw_ret ?_ | refine aw_label ?_ | refine aw_scope ?_ | refine zwt ?_ | refine zwf ?_ | refine zwd ?_) | refine zoT ?_ | refine zqT ?_ | refine zwT ?_ | refine zoF ?_ | refine zqF ?_ | refine zwF ?_ | refine zp ?_ | refine ib_exit ?_ | refine ib_other ?_ | refine zr1 ?_ | refine zr2 ?_ | refine zr3 ?_ | refine zrt ?_ | refine zrc ?_ | refine zrd ?_ | refine zoS (fun _ => ?_) (fun _ => ?_) | refine zqS (fun _ => ?_) (fun _ => ?_) | refine zwS (fun _ => ?_) (fun _ => ?_))
        exact lq_normal ⟨i + 1, rfl, by omega, fun j x hj hx2 => by
          by_cases e1 : j = i
          · subst e1; rw [he] at hx2; cases hx2; exact h6
          · exact hall j x (by omega) hx2, rfl, rfl⟩ (by omega) (by repeat (first | exact sub_nil | refine sub_cons rfl ?_))
      · have hq : fitL es = false := by
          unfold fitL
          rw [show (es.all fun e => decide (e.1.length ≤ 600)) = false from List.all_eq_false.2 ⟨e, List.mem_of_getElem? he, by simpa using h6⟩]
          simp
        rw [hq]
        repeat' (first | refine ao_nil ?_ | refine aq_nil ?_ | refine zov ?_ | refine zqv ?_ | refine zok ?_ | refine zqk ?_ | refine zon fun _ => ?_ | refine zow ?_ | refine zox ?_ | refine zoz ?_ | refine zoa fun vr lr hr => ?_ | (refine aw_is ?_; first | refine aw_seq ?_ | refine aw_block ?_ | refine aw_region ?_ | refine aw_skip ?_ | refine aw_exit ?_ | refine aw_ret ?_ | refine aw_label ?_ | refine aw_scope ?_ | refine zwt ?_ | refine zwf ?_ | refine zwd ?_) | refine zoT ?_ | refine zqT ?_ | refine zwT ?_ | refine zoF ?_ | refine zqF ?_ | refine zwF ?_ | refine zp ?_ | refine ib_exit ?_ | refine ib_other ?_ | refine zr1 ?_ | refine zr2 ?_ | refine zr3 ?_ | refine zrt ?_ | refine zrc ?_ | refine zrd ?_ | refine zoS (fun _ => ?_) (fun _ => ?_) | refine zqS (fun _ => ?_) (fun _ => ?_) | refine zwS (fun _ => ?_) (fun _ => ?_))
        exact fun w' hw => ⟨rfl, hw.below⟩
    · obtain rfl : i = es.length := by omega
      have hq : fitL es = true := by
        unfold fitL
        rw [show (es.all fun e => decide (e.1.length ≤ 600)) = true from List.all_eq_true.2 fun x hx => by
          obtain ⟨j, hj⟩ := List.getElem?_of_mem hx
          simpa using hall j x (List.getElem?_eq_some_iff.1 hj).1 hj]
        simp [hl]
      rw [hq]
      repeat' (first | refine ao_nil ?_ | refine aq_nil ?_ | refine zov ?_ | refine zqv ?_ | refine zok ?_ | refine zqk ?_ | refine zon fun _ => ?_ | refine zow ?_ | refine zox ?_ | refine zoz ?_ | refine zoa fun vr lr hr => ?_ | (refine aw_is ?_; first | refine aw_seq ?_ | refine aw_block ?_ | refine aw_region ?_ | refine aw_skip ?_ | refine aw_exit ?_ | refine aw_ret ?_ | refine aw_label ?_ | refine aw_scope ?_ | refine zwt ?_ | refine zwf ?_ | refine zwd ?_) | refine zoT ?_ | refine zqT ?_ | refine zwT ?_ | refine zoF ?_ | refine zqF ?_ | refine zwF ?_ | refine zp ?_ | refine ib_exit ?_ | refine ib_other ?_ | refine zr1 ?_ | refine zr2 ?_ | refine zr3 ?_ | refine zrt ?_ | refine zrc ?_ | refine zrd ?_ | refine zoS (fun _ => ?_) (fun _ => ?_) | refine zqS (fun _ => ?_) (fun _ => ?_) | refine zwS (fun _ => ?_) (fun _ => ?_))
      exact fun w' hw => ⟨rfl, hw.below⟩
  · have hq : fitL es = false := by unfold fitL; rw [decide_eq_false hl]; rfl
    rw [hq]
    repeat' (first | refine ao_nil ?_ | refine aq_nil ?_ | refine zov ?_ | refine zqv ?_ | refine zok ?_ | refine zqk ?_ | refine zon fun _ => ?_ | refine zow ?_ | refine zox ?_ | refine zoz ?_ | refine zoa fun vr lr hr => ?_ | (refine aw_is ?_; first | refine aw_seq ?_ | refine aw_block ?_ | refine aw_region ?_ | refine aw_skip ?_ | refine aw_exit ?_ | refine aw_ret ?_ | refine aw_label ?_ | refine aw_scope ?_ | refine zwt ?_ | refine zwf ?_ | refine zwd ?_) | refine zoT ?_ | refine zqT ?_ | refine zwT ?_ | refine zoF ?_ | refine zqF ?_ | refine zwF ?_ | refine zp ?_ | refine ib_exit ?_ | refine ib_other ?_ | refine zr1 ?_ | refine zr2 ?_ | refine zr3 ?_ | refine zrt ?_ | refine zrc ?_ | refine zrd ?_ | refine zoS (fun _ => ?_) (fun _ => ?_) | refine zqS (fun _ => ?_) (fun _ => ?_) | refine zwS (fun _ => ?_) (fun _ => ?_))
    exact fun w' hw => ⟨rfl, hw.below⟩

theorem both_len {less : Bool} {a : List Ent} : ∀ {b out o : List Ent}, bothL less a out b = some o → o.length ≤ out.length + b.length
  | [], out, o, ho => by simp only [bothL, Option.some.injEq] at ho; subst ho; simp
  | e :: b, out, o, ho => by
    unfold bothL at ho
    split at ho
    · have := both_len ho
      have hp := (put_len (nm := e.1) (n := opI less (getV a e.1) e.2) out (opI less (getV a e.1) e.2 == 0)).1
      have hp' : (putV out e.1 (opI less (getV a e.1) e.2)).length ≤ out.length + 1 := hp
      simp only [List.length_cons]
      omega
    · cases ho
theorem inW_of {x : Int} (h : inR x = true) : inW x := by rw [← inR_iff] at h; exact of_decide_eq_true h
theorem wf_comb {less : Bool} {es fs : List Ent} (h1 : wfV es) (h2 : wfV fs) (l1 : es.length ≤ 400) (l2 : fs.length ≤ 400) : wfV (combV less es fs).1 ∧ (combV less es fs).1.length ≤ es.length + fs.length := by
  unfold combV
  split
  · cases hb : bothL less es es fs with
    | none => exact ⟨⟨by simp, fun e he => by simp at he⟩, by simp⟩
    | some o =>
      have hl := both_len hb
      exact ⟨⟨by simp only; omega, both_mem (p := fun e => e.1.length ≤ 100000 ∧ inW e.2) h1.2 (fun e he n _ hn => ⟨(h2.2 e he).1, inW_of hn⟩) hb⟩, hl⟩
  · exact ⟨⟨by simp, fun e he => by simp at he⟩, by simp⟩
/-- Within, and of which name it has more. -/
def withinP (es fs : List Ent) : Bool × Nm :=
  if (rightV es && rightV fs) = true then (match overL es fs with | some n => (false, n) | none => (true, [])) else (false, [])
theorem within_eq (es fs : List Ent) : withinV es fs = .tuple #[.bool (withinP es fs).1, S (withinP es fs).2] := by
  unfold withinV withinP
  split
  · cases overL es fs <;> rfl
  · rfl
theorem wf_lit {es : List Ent} (h : fitL es = true) (hi : ∀ e ∈ es, inW e.2) : wfV es ∧ es.length ≤ 40 := by
  obtain ⟨h1, h2⟩ := fitL_t h
  exact ⟨⟨by omega, fun e he => ⟨by have := h2 e he; omega, hi e he⟩⟩, h1⟩
theorem beq_same {α : Type} [BEq α] [ReflBEq α] (a : α) : (a == a) = true := BEq.rfl

set_option maxHeartbeats 16000000 in
theorem tells_ok (va vb : Value) (es fs : List Ent) (l : Nm) (he : ∀ e ∈ es, inW e.2) (hf : ∀ e ∈ fs, inW e.2) (w : World) (hG : Qty.GlS w) (hva : VecCap w va es) (hvb : VecCap w vb fs) :
    Calls Tryd.prog 3 #[.agg #[va, vb], S l] w fun e w' => e = .returned (.bool true) ∧ Below w.heap.size w w' := by
  refine calls1 (args := [.agg #[va, vb], S l]) Tryd.func3 rfl rfl rfl rfl ?_
  cases h1 : fitL es
  · have hf1 : ∀ w', Below w.heap.size w w' → Calls Tryd.prog 7 #[va] w' fun e w'' => e = .returned (.bool false) ∧ Below w'.heap.size w' w'' := fun w' hb => h1 ▸ fitl_ok va es w' (hva.vec.below hb)
    have hf2 : ∀ w', Below w.heap.size w w' → Calls Tryd.prog 7 #[vb] w' fun e w'' => e = .returned (.bool (fitL fs)) ∧ Below w'.heap.size w' w'' := fun w' hb => fitl_ok vb fs w' (hvb.vec.below hb)
    repeat' (first | refine ao_nil ?_ | refine aq_nil ?_ | refine zov ?_ | refine zqv ?_ | refine zok ?_ | refine zqk ?_ | refine zon fun _ => ?_ | refine zow ?_ | refine zox ?_ | refine zoz ?_ | refine zoa fun vr lr hr => ?_ | ((first | apply ao_call | apply aq_call); exact wants_a; (first | exact oc_func rfl | exact oc_clos rfl rfl); (exact rfl); (first | exact fun w hw => hf1 w hw.below | exact fun w hw => hf2 w hw.below | exact fun w hw => alive_ok w (hG.below hw.below))) | (refine aw_is ?_; first | refine aw_seq ?_ | refine aw_block ?_ | refine aw_region ?_ | refine aw_skip ?_ | refine aw_exit ?_ | refine aw_ret ?_ | refine aw_label ?_ | refine aw_scope ?_ | refine zwt ?_ | refine zwf ?_ | refine zwd ?_) | refine zoT ?_ | refine zqT ?_ | refine zwT ?_ | refine zoF ?_ | refine zqF ?_ | refine zwF ?_ | refine zp ?_ | refine ib_exit ?_ | refine ib_other ?_ | refine zr1 ?_ | refine zr2 ?_ | refine zr3 ?_ | refine zrt ?_ | refine zrc ?_ | refine zrd ?_ | refine zoS (fun _ => ?_) (fun _ => ?_) | refine zqS (fun _ => ?_) (fun _ => ?_) | refine zwS (fun _ => ?_) (fun _ => ?_))
    exact fun w' hw => ⟨rfl, hw.below⟩
  have hf1 : ∀ w', Below w.heap.size w w' → Calls Tryd.prog 7 #[va] w' fun e w'' => e = .returned (.bool true) ∧ Below w'.heap.size w' w'' := fun w' hb => h1 ▸ fitl_ok va es w' (hva.vec.below hb)
  cases h2 : fitL fs
  · have hf2 : ∀ w', Below w.heap.size w w' → Calls Tryd.prog 7 #[vb] w' fun e w'' => e = .returned (.bool false) ∧ Below w'.heap.size w' w'' := fun w' hb => h2 ▸ fitl_ok vb fs w' (hvb.vec.below hb)
    repeat' (first | refine ao_nil ?_ | refine aq_nil ?_ | refine zov ?_ | refine zqv ?_ | refine zok ?_ | refine zqk ?_ | refine zon fun _ => ?_ | refine zow ?_ | refine zox ?_ | refine zoz ?_ | refine zoa fun vr lr hr => ?_ | ((first | apply ao_call | apply aq_call); exact wants_a; (first | exact oc_func rfl | exact oc_clos rfl rfl); (exact rfl); (first | exact fun w hw => hf1 w hw.below | exact fun w hw => hf2 w hw.below | exact fun w hw => alive_ok w (hG.below hw.below))) | (refine aw_is ?_; first | refine aw_seq ?_ | refine aw_block ?_ | refine aw_region ?_ | refine aw_skip ?_ | refine aw_exit ?_ | refine aw_ret ?_ | refine aw_label ?_ | refine aw_scope ?_ | refine zwt ?_ | refine zwf ?_ | refine zwd ?_) | refine zoT ?_ | refine zqT ?_ | refine zwT ?_ | refine zoF ?_ | refine zqF ?_ | refine zwF ?_ | refine zp ?_ | refine ib_exit ?_ | refine ib_other ?_ | refine zr1 ?_ | refine zr2 ?_ | refine zr3 ?_ | refine zrt ?_ | refine zrc ?_ | refine zrd ?_ | refine zoS (fun _ => ?_) (fun _ => ?_) | refine zqS (fun _ => ?_) (fun _ => ?_) | refine zwS (fun _ => ?_) (fun _ => ?_))
    exact fun w' hw => ⟨rfl, hw.below⟩
  have hf2 : ∀ w', Below w.heap.size w w' → Calls Tryd.prog 7 #[vb] w' fun e w'' => e = .returned (.bool true) ∧ Below w'.heap.size w' w'' := fun w' hb => h2 ▸ fitl_ok vb fs w' (hvb.vec.below hb)
  by_cases hl : l.length ≤ 600
  · obtain ⟨w1, l1⟩ := wf_lit h1 he
    obtain ⟨w2, l2⟩ := wf_lit h2 hf
    obtain ⟨w3, l3⟩ := wf_comb (less := false) w1 w2 (by omega) (by omega)
    obtain ⟨w4, l4⟩ := wf_comb (less := true) w1 w2 (by omega) (by omega)
    have c1 := fun w' (hb : Below w.heap.size w w') => padd_ok va vb es fs w1 w2 (by omega) (by omega) w' (hva.below hb) (hvb.below hb)
    have c2 := fun w' (hb : Below w.heap.size w w') => vadd_ok va vb es fs w1 w2 (by omega) (by omega) w' (hva.vec.below hb) (hvb.vec.below hb)
    have c3 := fun w' (hb : Below w.heap.size w w') => psub_ok va vb es fs w1 w2 (by omega) (by omega) w' (hva.below hb) (hvb.below hb)
    have c4 := fun w' (hb : Below w.heap.size w w') => vsub_ok va vb es fs w1 w2 (by omega) (by omega) w' (hva.vec.below hb) (hvb.vec.below hb)
    have c5 := fun w' (hb : Below w.heap.size w w') => pwithin_ok va vb es fs w1 w2 w' (hva.vec.below hb) (hvb.vec.below hb)
    have c6 := fun w' (hb : Below w.heap.size w w') => vwithin_ok va vb es fs w1 w2 w' (hva.vec.below hb) (hvb.vec.below hb)
    rw [within_eq] at c5 c6
    generalize (combV false es fs).2 = e1 at c1 c2
    generalize (combV true es fs).2 = e2 at c3 c4
    generalize (combV false es fs).1 = x1 at c1 c2 w3
    generalize (combV true es fs).1 = x2 at c3 c4 w4
    have s1 : (e1 != e1) = false := bne_self_eq_false _
    have s2 : (e2 != e2) = false := bne_self_eq_false _
    have s3 := fun w' v u (h1 : VecAt w' v x1) (h2 : VecAt w' u x1) => vsame_ok v u x1 x1 w3 w3 w' h1 h2
    have s4 := fun w' v u (h1 : VecAt w' v x2) (h2 : VecAt w' u x2) => vsame_ok v u x2 x2 w4 w4 w' h1 h2
    rw [beq_same] at s3 s4
    repeat' (first | refine ao_nil ?_ | refine aq_nil ?_ | refine zov ?_ | refine zqv ?_ | refine zok ?_ | refine zqk ?_ | refine zon fun _ => ?_ | refine zow ?_ | refine zox ?_ | refine zoz ?_ | refine zoa fun vr lr hr => ?_ | ((first | apply ao_call | apply aq_call); exact wants_a; (first | exact oc_func rfl | exact oc_clos rfl rfl); (exact rfl); (first | exact fun w hw => hf1 w hw.below | exact fun w hw => hf2 w hw.below)) | (apply ao_callr2; exact wants_a; (exact oc_func rfl); (exact rfl); (first | exact fun w hw => c1 w hw.below); intro vr lr hr) | (refine aw_is ?_; first | refine aw_seq ?_ | refine aw_block ?_ | refine aw_region ?_ | refine aw_skip ?_ | refine aw_exit ?_ | refine aw_ret ?_ | refine aw_label ?_ | refine aw_scope ?_ | refine zwt ?_ | refine zwf ?_ | refine zwd ?_) | refine zoT ?_ | refine zqT ?_ | refine zwT ?_ | refine zoF ?_ | refine zqF ?_ | refine zwF ?_ | refine zp ?_ | refine ib_exit ?_ | refine ib_other ?_ | refine zr1 ?_ | refine zr2 ?_ | refine zr3 ?_ | refine zrt ?_ | refine zrc ?_ | refine zrd ?_ | refine zoS (fun _ => ?_) (fun _ => ?_) | refine zqS (fun _ => ?_) (fun _ => ?_) | refine zwS (fun _ => ?_) (fun _ => ?_))
    revert vr lr hr
    intro v1 k1 r1
    repeat' (first | refine ao_nil ?_ | refine aq_nil ?_ | refine zov ?_ | refine zqv ?_ | refine zok ?_ | refine zqk ?_ | refine zon fun _ => ?_ | refine zow ?_ | refine zox ?_ | refine zoz ?_ | refine zoa fun vr lr hr => ?_ | (apply ao_callr2; exact wants_a; (exact oc_func rfl); (exact rfl); (first | exact fun w hw => c2 w hw.below); intro vr lr hr) | (refine aw_is ?_; first | refine aw_seq ?_ | refine aw_block ?_ | refine aw_region ?_ | refine aw_skip ?_ | refine aw_exit ?_ | refine aw_ret ?_ | refine aw_label ?_ | refine aw_scope ?_ | refine zwt ?_ | refine zwf ?_ | refine zwd ?_) | refine zoT ?_ | refine zqT ?_ | refine zwT ?_ | refine zoF ?_ | refine zqF ?_ | refine zwF ?_ | refine zp ?_ | refine ib_exit ?_ | refine ib_other ?_ | refine zr1 ?_ | refine zr2 ?_ | refine zr3 ?_ | refine zrt ?_ | refine zrc ?_ | refine zrd ?_ | refine zoS (fun _ => ?_) (fun _ => ?_) | refine zqS (fun _ => ?_) (fun _ => ?_) | refine zwS (fun _ => ?_) (fun _ => ?_))
    revert vr lr hr
    intro v2 k2 r2
    repeat' (first | refine ao_nil ?_ | refine aq_nil ?_ | refine zov ?_ | refine zqv ?_ | refine zok ?_ | refine zqk ?_ | refine zon fun _ => ?_ | refine zow ?_ | refine zox ?_ | refine zoz ?_ | refine zoa fun vr lr hr => ?_ | (apply ao_callr2; exact wants_a; (exact oc_func rfl); (exact rfl); (first | exact fun w hw => c3 w hw.below); intro vr lr hr) | (refine aw_is ?_; first | refine aw_seq ?_ | refine aw_block ?_ | refine aw_region ?_ | refine aw_skip ?_ | refine aw_exit ?_ | refine aw_ret ?_ | refine aw_label ?_ | refine aw_scope ?_ | refine zwt ?_ | refine zwf ?_ | refine zwd ?_) | refine zoT ?_ | refine zqT ?_ | refine zwT ?_ | refine zoF ?_ | refine zqF ?_ | refine zwF ?_ | refine zp ?_ | refine ib_exit ?_ | refine ib_other ?_ | refine zr1 ?_ | refine zr2 ?_ | refine zr3 ?_ | refine zrt ?_ | refine zrc ?_ | refine zrd ?_ | refine zoS (fun _ => ?_) (fun _ => ?_) | refine zqS (fun _ => ?_) (fun _ => ?_) | refine zwS (fun _ => ?_) (fun _ => ?_))
    revert vr lr hr
    intro v3 k3 r3
    repeat' (first | refine ao_nil ?_ | refine aq_nil ?_ | refine zov ?_ | refine zqv ?_ | refine zok ?_ | refine zqk ?_ | refine zon fun _ => ?_ | refine zow ?_ | refine zox ?_ | refine zoz ?_ | refine zoa fun vr lr hr => ?_ | (apply ao_callr2; exact wants_a; (exact oc_func rfl); (exact rfl); (first | exact fun w hw => c4 w hw.below); intro vr lr hr) | (refine aw_is ?_; first | refine aw_seq ?_ | refine aw_block ?_ | refine aw_region ?_ | refine aw_skip ?_ | refine aw_exit ?_ | refine aw_ret ?_ | refine aw_label ?_ | refine aw_scope ?_ | refine zwt ?_ | refine zwf ?_ | refine zwd ?_) | refine zoT ?_ | refine zqT ?_ | refine zwT ?_ | refine zoF ?_ | refine zqF ?_ | refine zwF ?_ | refine zp ?_ | refine ib_exit ?_ | refine ib_other ?_ | refine zr1 ?_ | refine zr2 ?_ | refine zr3 ?_ | refine zrt ?_ | refine zrc ?_ | refine zrd ?_ | refine zoS (fun _ => ?_) (fun _ => ?_) | refine zqS (fun _ => ?_) (fun _ => ?_) | refine zwS (fun _ => ?_) (fun _ => ?_))
    revert vr lr hr
    intro v4 k4 r4
    repeat' (first | refine ao_nil ?_ | refine aq_nil ?_ | refine zov ?_ | refine zqv ?_ | refine zok ?_ | refine zqk ?_ | refine zon fun _ => ?_ | refine zow ?_ | refine zox ?_ | refine zoz ?_ | refine zoa fun vr lr hr => ?_ | ((first | apply ao_call | apply aq_call); exact wants_a; (first | exact oc_func rfl | exact oc_clos rfl rfl); (exact rfl); (first | (intro w hw; refine s3 w v1 v2 ?_ ?_; exact hw.oldr r1 cut_a; exact hw.oldr r2 cut_a) | (intro w hw; refine s4 w v3 v4 ?_ ?_; exact hw.oldr r3 cut_a; exact hw.oldr r4 cut_a))) | (refine aw_is ?_; first | refine aw_cutI_at (id := 15) (fun t H => t = [(1, S l), (5, va), (6, vb)] ∧ H = []) ?_ ?_ | refine aw_cutI_at2 (id := 15) (fun t H => t = [(1, S l), (5, va), (6, vb)] ∧ H = []) ?_ ?_ | refine aw_seq ?_ | refine aw_block ?_ | refine aw_region ?_ | refine aw_skip ?_ | refine aw_exit ?_ | refine aw_ret ?_ | refine aw_label ?_ | refine aw_scope ?_ | refine zwt ?_ | refine zwf ?_ | refine zwd ?_) | refine zoT ?_ | refine zqT ?_ | refine zwT ?_ | refine zoF ?_ | refine zqF ?_ | refine zwF ?_ | refine zp ?_ | refine ib_exit ?_ | refine ib_other ?_ | refine zr1 ?_ | refine zr2 ?_ | refine zr3 ?_ | refine zrt ?_ | refine zrc ?_ | refine zrd ?_ | refine zoS (fun _ => ?_) (fun _ => ?_) | refine zqS (fun _ => ?_) (fun _ => ?_) | refine zwS (fun _ => ?_) (fun _ => ?_))
    · exact ci_normal ⟨rfl, rfl⟩ (by repeat (first | exact sub_nil | refine sub_cons rfl ?_)) (List.nil_sublist _)
    rintro t H ⟨rfl, rfl⟩
    repeat' (first | refine ao_nil ?_ | refine aq_nil ?_ | refine zov ?_ | refine zqv ?_ | refine zok ?_ | refine zqk ?_ | refine zon fun _ => ?_ | refine zow ?_ | refine zox ?_ | refine zoz ?_ | refine zoa fun vr lr hr => ?_ | ((first | apply ao_call | apply aq_call); exact wants_a; (first | exact oc_func rfl | exact oc_clos rfl rfl); (exact rfl); (first | exact fun w hw => c5 w hw.below | exact fun w hw => c6 w hw.below | exact fun w hw => pright_ok va es w1 w (hva.vec.below hw.below) | exact fun w hw => vright_ok va es w1 w (hva.vec.below hw.below) | exact fun w hw => pfits_ok va es w1 w (hva.vec.below hw.below) | exact fun w hw => vfits_ok va es w1 w (hva.vec.below hw.below) | exact fun w hw => ptext_ok va es w1 (by omega) w (hva.vec.below hw.below) | exact fun w hw => vtext_ok va es w1 (by omega) w (hva.vec.below hw.below) | exact fun w hw => alive_ok w (hG.below hw.below) | exact fun w hw => pget_ok va es l w1 w (hva.vec.below hw.below) | exact fun w hw => vget_ok va es l w1 w (hva.vec.below hw.below) | exact fun w hw => psame_ok va vb es fs w1 w2 w (hva.vec.below hw.below) (hvb.vec.below hw.below) | exact fun w hw => vsame_ok va vb es fs w1 w2 w (hva.vec.below hw.below) (hvb.vec.below hw.below))) | (refine aw_is ?_; first | refine aw_seq ?_ | refine aw_block ?_ | refine aw_region ?_ | refine aw_skip ?_ | refine aw_exit ?_ | refine aw_ret ?_ | refine aw_label ?_ | refine aw_scope ?_ | refine zwt ?_ | refine zwf ?_ | refine zwd ?_) | refine zoT ?_ | refine zqT ?_ | refine zwT ?_ | refine zoF ?_ | refine zqF ?_ | refine zwF ?_ | refine zp ?_ | refine ib_exit ?_ | refine ib_other ?_ | refine zr1 ?_ | refine zr2 ?_ | refine zr3 ?_ | refine zrt ?_ | refine zrc ?_ | refine zrd ?_ | refine zoS (fun _ => ?_) (fun _ => ?_) | refine zqS (fun _ => ?_) (fun _ => ?_) | refine zwS (fun _ => ?_) (fun _ => ?_))
    all_goals exact fun w' hw => ⟨by rw [beq_same], hw.below⟩
  · repeat' (first | refine ao_nil ?_ | refine aq_nil ?_ | refine zov ?_ | refine zqv ?_ | refine zok ?_ | refine zqk ?_ | refine zon fun _ => ?_ | refine zow ?_ | refine zox ?_ | refine zoz ?_ | refine zoa fun vr lr hr => ?_ | ((first | apply ao_call | apply aq_call); exact wants_a; (first | exact oc_func rfl | exact oc_clos rfl rfl); (exact rfl); (first | exact fun w hw => hf1 w hw.below | exact fun w hw => hf2 w hw.below | exact fun w hw => alive_ok w (hG.below hw.below))) | (refine aw_is ?_; first | refine aw_seq ?_ | refine aw_block ?_ | refine aw_region ?_ | refine aw_skip ?_ | refine aw_exit ?_ | refine aw_ret ?_ | refine aw_label ?_ | refine aw_scope ?_ | refine zwt ?_ | refine zwf ?_ | refine zwd ?_) | refine zoT ?_ | refine zqT ?_ | refine zwT ?_ | refine zoF ?_ | refine zqF ?_ | refine zwF ?_ | refine zp ?_ | refine ib_exit ?_ | refine ib_other ?_ | refine zr1 ?_ | refine zr2 ?_ | refine zr3 ?_ | refine zrt ?_ | refine zrc ?_ | refine zrd ?_ | refine zoS (fun _ => ?_) (fun _ => ?_) | refine zqS (fun _ => ?_) (fun _ => ?_) | refine zwS (fun _ => ?_) (fun _ => ?_))
    exact fun w' hw => ⟨rfl, hw.below⟩
end Vec
end Go.Proofs.YteclgkemggmabaaDoor
