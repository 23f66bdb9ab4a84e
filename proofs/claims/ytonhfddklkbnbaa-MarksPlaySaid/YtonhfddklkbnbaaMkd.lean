/- The live question of layer 12; conditions: none. -/
import Derived.Test.YtonhfddklkbnbaaMkc
namespace Go.Proofs.Ytonhfddklkbnbaa
namespace Mkt
open Go Go.RowKit Sx Trt
attribute [local irreducible] Go.Calls

abbrev U1 : Tr := [(nb, rootN), (rootN, [])]
abbrev U2 : Tr := [(na, nb), (nb, rootN), (rootN, [])]
abbrev U3 : Tr := [(na, nb), (nb, rootN), (nc, rootN), (rootN, [])]
set_option maxRecDepth 20000 in
set_option maxHeartbeats 64000000 in
theorem alive_ok (w : World) : Calls Try.prog 7 #[] w fun e w' => e = .returned (.bool true) ∧ Below w.heap.size w w' := by
  have p1 : createT (Lab.rightB nb) Tr.new nb rootN = (0, U1) := by kernel_rfl
  have p2 : createT (Lab.rightB na) U1 na nb = (0, U2) := by kernel_rfl
  have p3 : createT (Lab.rightB nc) U2 nc rootN = (0, U3) := by kernel_rfl
  have q1 : marksL [] [nc, rootN, nb, nx] = [nb, nc, rootN, nx] := by kernel_rfl
  have q2 : nextL U3 [nb, nc, rootN, nx] = (nb, true) := by kernel_rfl
  have q3 : clearL [nb, nc, rootN, nx] nb = ([nc, rootN, nx], 0) := by kernel_rfl
  have q4 : clearL [nc, rootN, nx] nb = ([nc, rootN, nx], 4) := by kernel_rfl
  have q5 : marksL [nc, rootN, nx] [na] = [na, nc, rootN, nx] := by kernel_rfl
  have q6 : nextL U3 [na, nc, rootN, nx] = (na, true) := by kernel_rfl
  have q7 : nextL U3 [] = ([], false) := by kernel_rfl
  have s1 : ∀ c : UInt8, [c].length ≤ 100 := fun c => by show 1 ≤ 100; omega
  have s4 : rootN.length ≤ 100 := by show 4 ≤ 100; omega
  have f1 : FitT U1 := by have := fit_doT FitT.new 0 (s1 98) rootN; rw [do_01 (.inl (by decide)), p1] at this; exact this
  have f2 : FitT U2 := by have := fit_doT f1 0 (s1 97) nb; rw [do_01 (.inl (by decide)), p2] at this; exact this
  have f3 : FitT U3 := by have := fit_doT f2 0 (s1 99) rootN; rw [do_01 (.inl (by decide)), p3] at this; exact this
  have n1 : ∀ e ∈ [nc, rootN, nb, nx], e.length ≤ 100 := fun e he => by
    simp only [List.mem_cons, List.not_mem_nil, or_false] at he
    rcases he with rfl | rfl | rfl | rfl <;> first | exact s1 _ | exact s4
  have n2 : ∀ e ∈ [na], e.length ≤ 100 := fun e he => by cases List.mem_singleton.1 he; exact s1 _
  have m1 : FitM [nb, nc, rootN, nx] := q1 ▸ FitM.new.marks (ks := [nc, rootN, nb, nx]) (by decide) n1
  have m2 : FitM [nc, rootN, nx] := by have := m1.clear nb; rw [q3] at this; exact this
  have m3 : FitM [na, nc, rootN, nx] := q5 ▸ m2.marks (ks := [na]) (by decide) n2
  have c1 := fun {m g : Nat} {l : Hp} h R => tcreate_ok (m := m) (w0 := w) (g := g) (l := l) h FitT.new nb rootN (s1 98) R
  have c2 := fun {m g : Nat} {l : Hp} h R => tcreate_ok (m := m) (w0 := w) (g := g) (l := l) h f1 na nb (s1 97) R
  have c3 := fun {m g : Nat} {l : Hp} h R => tcreate_ok (m := m) (w0 := w) (g := g) (l := l) h f2 nc rootN (s1 99) R
  have c4 := fun {m g : Nat} {h : Hp} {v lv R R2} hL hr hc => mmark_row (m := m) (w0 := w) (g := g) (h := h) (v := v) (lv := lv) (R2 := R2) hL FitM.new (ks := [nc, rootN, nb, nx]) (by decide) n1 R hr hc
  have c5 := fun {m g : Nat} {h : Hp} hL R => mclear_ok (m := m) (w0 := w) (g := g) (h := h) hL m1 nb R
  have c6 := fun {m g : Nat} {h : Hp} hL R => mclear_ok (m := m) (w0 := w) (g := g) (h := h) hL m2 nb R
  have c7 := fun {m g : Nat} {h : Hp} {v lv R R2} hL hr hc => mmark_row (m := m) (w0 := w) (g := g) (h := h) (v := v) (lv := lv) (R2 := R2) hL m2 (ks := [na]) (by decide) n2 R hr hc
  unfold LDid at c1 c2 c3
  unfold MDid at c4 c5 c6 c7
  simp only [p1] at c1
  simp only [p2] at c2
  simp only [p3] at c3
  simp only [q1] at c4
  simp only [q3] at c5
  simp only [q4] at c6
  simp only [q5] at c7
  refine calls1 (args := []) Try.func7 rfl rfl rfl rfl ?_
  repeat' (first | refine aw_seq ?_ | refine zz ?_ | refine zon fun _ => ?_ | refine zoa fun vr lr hr => ?_ | ((apply ao_callD; exact wants_a; (exact oc_func rfl); (exact rfl); (intro w hw; exact tnew_ok w); intro vr l0 hr; obtain ⟨g, hvr, hL0⟩ := hr; subst hvr)) | refine zoS (fun _ => ?_) (fun _ => ?_) | refine zqS (fun _ => ?_) (fun _ => ?_) | refine zwS (fun _ => ?_) (fun _ => ?_))
  repeat' (first | refine aw_seq ?_ | refine zz ?_ | refine zon fun _ => ?_ | refine zoa fun vr lr hr => ?_ | ((have hq := fun {m} R => c1 (m := m) hL0 R; apply ao_callH (l := l0); exact wants_a; (exact oc_func rfl); (exact rfl); (exact cut_a); (exact hq _); rintro _ _ ⟨rfl, l1, rfl, hL1⟩; clear hq c1)) | refine zoS (fun _ => ?_) (fun _ => ?_) | refine zqS (fun _ => ?_) (fun _ => ?_) | refine zwS (fun _ => ?_) (fun _ => ?_))
  repeat' (first | refine aw_seq ?_ | refine zz ?_ | refine zon fun _ => ?_ | refine zoa fun vr lr hr => ?_ | ((have hq := fun {m} R => c2 (m := m) hL1 R; apply ao_callH (l := l1); exact wants_a; (exact oc_func rfl); (exact rfl); (exact cut_a); (exact hq _); rintro _ _ ⟨rfl, l2, rfl, hL2⟩; clear hq c2)) | refine zoS (fun _ => ?_) (fun _ => ?_) | refine zqS (fun _ => ?_) (fun _ => ?_) | refine zwS (fun _ => ?_) (fun _ => ?_))
  repeat' (first | refine aw_seq ?_ | refine zz ?_ | refine zon fun _ => ?_ | refine zoa fun vr lr hr => ?_ | ((have hq := fun {m} R => c3 (m := m) hL2 R; apply ao_callH (l := l2); exact wants_a; (exact oc_func rfl); (exact rfl); (exact cut_a); (exact hq _); rintro _ _ ⟨rfl, l3, rfl, hL3⟩; clear hq c3)) | refine zoS (fun _ => ?_) (fun _ => ?_) | refine zqS (fun _ => ?_) (fun _ => ?_) | refine zwS (fun _ => ?_) (fun _ => ?_))
  clear hL0 hL1 hL2
  repeat' (first | refine aw_seq ?_ | refine zz ?_ | refine zon fun _ => ?_ | refine zoa fun vr lr hr => ?_ | ((apply ao_callD; exact wants_a; (exact oc_func rfl); (exact rfl); (intro w hw; exact mnew_ok w); intro vr h0 hr; obtain ⟨gm, hvr, hM0⟩ := hr; subst hvr)) | refine zoS (fun _ => ?_) (fun _ => ?_) | refine zqS (fun _ => ?_) (fun _ => ?_) | refine zwS (fun _ => ?_) (fun _ => ?_))
  have hM0' := hM0
  repeat' (first | refine aw_seq ?_ | refine zz ?_ | refine zon fun _ => ?_ | refine zoa fun vr lr hr => ?_ | ((apply ao_callH (l := h0); exact wants_a; (exact oc_func rfl); (exact rfl); (exact cut_a); (exact c4 hM0 (row_lit rfl rfl) cut_a); rintro _ _ ⟨rfl, h1, rfl, hM1⟩; clear hM0 c4)) | refine zoS (fun _ => ?_) (fun _ => ?_) | refine zqS (fun _ => ?_) (fun _ => ?_) | refine zwS (fun _ => ?_) (fun _ => ?_))
  have hx1 := fun w' (hl : Lies w' h1) (hlt : Lies w' l3) => mnext_ok hM1 m1 hL3 f3 w' hl hlt
  simp only [q2] at hx1
  repeat' (first | refine aw_seq ?_ | refine zz ?_ | refine zon fun _ => ?_ | refine zoa fun vr lr hr => ?_ | ((first | apply ao_call | apply aq_call); exact wants_a; (first | exact oc_func rfl | exact oc_clos rfl rfl | exact oc_bnd rfl rfl); (exact rfl); (first | exact fun w hw => hx1 w (lies_of hw (l := h1) cut_a) (lies_of hw (l := l3) cut_a))) | refine zoS (fun _ => ?_) (fun _ => ?_) | refine zqS (fun _ => ?_) (fun _ => ?_) | refine zwS (fun _ => ?_) (fun _ => ?_))
  repeat' (first | refine aw_seq ?_ | refine zz ?_ | refine zon fun _ => ?_ | refine zoa fun vr lr hr => ?_ | ((have hq := fun {m} R => c5 (m := m) hM1 R; apply ao_callH (l := h1); exact wants_a; (exact oc_func rfl); (exact rfl); (exact cut_a); (exact hq _); rintro _ _ ⟨rfl, h2, rfl, hM2⟩; clear hq c5)) | refine zoS (fun _ => ?_) (fun _ => ?_) | refine zqS (fun _ => ?_) (fun _ => ?_) | refine zwS (fun _ => ?_) (fun _ => ?_))
  clear hx1
  repeat' (first | refine aw_seq ?_ | refine zz ?_ | refine zon fun _ => ?_ | refine zoa fun vr lr hr => ?_ | ((have hq := fun {m} R => c6 (m := m) hM2 R; apply ao_callH (l := h2); exact wants_a; (exact oc_func rfl); (exact rfl); (exact cut_a); (exact hq _); rintro _ _ ⟨rfl, h3, rfl, hM3⟩; clear hq c6)) | refine zoS (fun _ => ?_) (fun _ => ?_) | refine zqS (fun _ => ?_) (fun _ => ?_) | refine zwS (fun _ => ?_) (fun _ => ?_))
  repeat' (first | refine aw_seq ?_ | refine zz ?_ | refine zon fun _ => ?_ | refine zoa fun vr lr hr => ?_ | ((apply ao_callH (l := h3); exact wants_a; (exact oc_func rfl); (exact rfl); (exact cut_a); (exact c7 hM3 (row_lit rfl rfl) cut_a); rintro _ _ ⟨rfl, h4, rfl, hM4⟩; clear hM3 c7)) | refine zoS (fun _ => ?_) (fun _ => ?_) | refine zqS (fun _ => ?_) (fun _ => ?_) | refine zwS (fun _ => ?_) (fun _ => ?_))
  have hx2 := fun w' (hl : Lies w' h4) (hlt : Lies w' l3) => mnext_ok hM4 m3 hL3 f3 w' hl hlt
  simp only [q6] at hx2
  have hx3 := fun {g5 : Nat} {h5 : Hp} (hM : LMk [] g5 h5) w' (hl : Lies w' h5) (hlt : Lies w' l3) => mnext_ok hM FitM.new hL3 f3 w' hl hlt
  simp only [q7] at hx3
  have hal := fun w' (hl : Lies w' h4) => mall_ok hM4 m3 w' hl
  have hha := fun w' (hl : Lies w' h4) => mhas_ok hM4 m3 nx w' hl
  rw [show decide (nx ∈ [na, nc, rootN, nx]) = true by decide] at hha
  have h1 := same_ok [na, nc, rootN, nx] (by decide)
  repeat' (first | refine aw_seq ?_ | refine zz ?_ | refine zon fun _ => ?_ | refine zoa fun vr lr hr => ?_ | ((first | apply ao_call | apply aq_call); exact wants_a; (first | exact oc_func rfl | exact oc_clos rfl rfl | exact oc_bnd rfl rfl); (exact rfl); (first | exact fun w hw => hx2 w (lies_of hw (l := h4) cut_a) (lies_of hw (l := l3) cut_a))) | ((apply ao_callD; exact wants_a; (exact oc_func rfl); (exact rfl); (intro w hw; exact mnew_ok w); intro vr h5 hr; obtain ⟨g5, hvr, hM5⟩ := hr; subst hvr)) | refine zoS (fun _ => ?_) (fun _ => ?_) | refine zqS (fun _ => ?_) (fun _ => ?_) | refine zwS (fun _ => ?_) (fun _ => ?_))
  repeat' (first | refine aw_seq ?_ | refine zz ?_ | refine zon fun _ => ?_ | refine zoa fun vr lr hr => ?_ | ((first | apply ao_call | apply aq_call); exact wants_a; (first | exact oc_func rfl | exact oc_clos rfl rfl | exact oc_bnd rfl rfl); (exact rfl); (first | exact fun w hw => h1 _ _ w (hw.oldr (by assumption) cut_a) (hw.oldr (row_lit rfl rfl) cut_a) | exact fun w hw => hx3 hM5 w (lies_of hw (l := h5) cut_a) (lies_of hw (l := l3) cut_a) | exact fun w hw => hha w (lies_of hw (l := h4) cut_a))) | (apply ao_callr; exact wants_a; (exact oc_func rfl); (exact rfl); (first | exact fun w hw => hal w (lies_of hw (l := h4) cut_a)); intro vr lr hr) | refine zoS (fun _ => ?_) (fun _ => ?_) | refine zqS (fun _ => ?_) (fun _ => ?_) | refine zwS (fun _ => ?_) (fun _ => ?_))
  exact fun w' hw => ⟨rfl, hw.below⟩
end Mkt
end Go.Proofs.Ytonhfddklkbnbaa
