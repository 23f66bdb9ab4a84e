/- Texts, and the live question of layer 11; conditions: none. -/
import Derived.Test.YtoeidecnfkogdaaTrs
namespace Go.Proofs.Ytoeidecnfkogdaa
namespace Trt
open Go Go.RowKit Sx
attribute [local irreducible] Go.Calls

abbrev na : Nm := [97]
abbrev nb : Nm := [98]
abbrev nc : Nm := [99]
abbrev nd : Nm := [100]
abbrev nx : Nm := [120]
abbrev T1 : Tr := [(na, rootN), (rootN, [])]
abbrev T2 : Tr := [(na, rootN), (nb, na), (rootN, [])]
abbrev T3 : Tr := [(na, rootN), (nb, na), (nc, nb), (rootN, [])]
abbrev T4 : Tr := [(na, rootN), (nb, na), (nc, rootN), (rootN, [])]
abbrev T5 : Tr := [(na, rootN), (nc, rootN), (rootN, [])]
set_option maxRecDepth 20000 in
set_option maxHeartbeats 64000000 in
theorem alive_ok (w : World) : Calls Try.prog 7 #[] w fun e w' => e = .returned (.bool true) ∧ Below w.heap.size w w' := by
  have p1 : createT (Lab.rightB na) Tr.new na rootN = (0, T1) := by kernel_rfl
  have p2 : createT (Lab.rightB nb) T1 nb na = (0, T2) := by kernel_rfl
  have p3 : createT (Lab.rightB nc) T2 nc nb = (0, T3) := by kernel_rfl
  have p4 : moveT T3 na nc = (8, T3) := by kernel_rfl
  have p5 : moveT T3 nc rootN = (0, T4) := by kernel_rfl
  have p6 : removeT T4 na = (10, T4) := by kernel_rfl
  have p7 : createT (Lab.rightB na) T4 na nb = (5, T4) := by kernel_rfl
  have p8 : createT (Lab.rightB nd) T4 nd nx = (4, T4) := by kernel_rfl
  have p9 : removeT T4 rootN = (1, T4) := by kernel_rfl
  have pA : removeT T4 nb = (0, T5) := by kernel_rfl
  have s1 : ∀ c : UInt8, [c].length ≤ 100 := fun c => by show 1 ≤ 100; omega
  have f1 : FitT T1 := by have := fit_doT FitT.new 0 (s1 97) rootN; rw [do_01 (.inl (by decide)), p1] at this; exact this
  have f2 : FitT T2 := by have := fit_doT f1 0 (s1 98) na; rw [do_01 (.inl (by decide)), p2] at this; exact this
  have f3 : FitT T3 := by have := fit_doT f2 0 (s1 99) nb; rw [do_01 (.inl (by decide)), p3] at this; exact this
  have f4 : FitT T4 := by have := fit_doT f3 2 (s1 99) rootN; rw [do_2 (by decide), p5] at this; exact this
  have f5 : FitT T5 := by have := fit_doT f4 3 (s1 98) rootN; rw [do_3 (by decide), pA] at this; exact this
  have c1 := fun {m g : Nat} {l : Hp} h R => tcreate_ok (m := m) (w0 := w) (g := g) (l := l) h FitT.new na rootN (s1 97) R
  have c2 := fun {m g : Nat} {l : Hp} h R => tcreate_ok (m := m) (w0 := w) (g := g) (l := l) h f1 nb na (s1 98) R
  have c3 := fun {m g : Nat} {l : Hp} h R => tcreate_ok (m := m) (w0 := w) (g := g) (l := l) h f2 nc nb (s1 99) R
  have c4 := fun {m g : Nat} {l : Hp} h R => tmove_ok (m := m) (w0 := w) (g := g) (l := l) h f3 na nc R
  have c5 := fun {m g : Nat} {l : Hp} h R => tmove_ok (m := m) (w0 := w) (g := g) (l := l) h f3 nc rootN R
  have c6 := fun {m g : Nat} {l : Hp} h R => tremove_ok (m := m) (w0 := w) (g := g) (l := l) h f4 na R
  have c7 := fun {m g : Nat} {l : Hp} h R => tcreate_ok (m := m) (w0 := w) (g := g) (l := l) h f4 na nb (s1 97) R
  have c8 := fun {m g : Nat} {l : Hp} h R => tcreate_ok (m := m) (w0 := w) (g := g) (l := l) h f4 nd nx (s1 100) R
  have c9 := fun {m g : Nat} {l : Hp} h R => tremove_ok (m := m) (w0 := w) (g := g) (l := l) h f4 rootN R
  have cA := fun {m g : Nat} {l : Hp} h R => tremove_ok (m := m) (w0 := w) (g := g) (l := l) h f4 nb R
  unfold LDid at c1 c2 c3 c4 c5 c6 c7 c8 c9 cA
  simp only [p1] at c1
  simp only [p2] at c2
  simp only [p3] at c3
  simp only [p4] at c4
  simp only [p5] at c5
  simp only [p6] at c6
  simp only [p7] at c7
  simp only [p8] at c8
  simp only [p9] at c9
  simp only [pA] at cA
  refine calls1 (args := []) Try.func7 rfl rfl rfl rfl ?_
  repeat' (first | refine aw_seq ?_ | refine zz ?_ | refine zon fun _ => ?_ | refine zoa fun vr lr hr => ?_ | ((apply ao_callD; exact wants_a; (exact oc_func rfl); (exact rfl); (intro w hw; exact tnew_ok w); intro vr l0 hr; obtain ⟨g, hvr, hL0⟩ := hr; subst hvr)) | refine zoS (fun _ => ?_) (fun _ => ?_) | refine zqS (fun _ => ?_) (fun _ => ?_) | refine zwS (fun _ => ?_) (fun _ => ?_))
  repeat' (first | refine aw_seq ?_ | refine zz ?_ | refine zon fun _ => ?_ | refine zoa fun vr lr hr => ?_ | ((have hq := fun {m} R => c1 (m := m) hL0 R; apply ao_callH (l := l0); exact wants_a; (exact oc_func rfl); (exact rfl); (exact cut_a); (exact hq _); rintro _ _ ⟨rfl, l1, rfl, hL1⟩; clear hq c1)) | refine zoS (fun _ => ?_) (fun _ => ?_) | refine zqS (fun _ => ?_) (fun _ => ?_) | refine zwS (fun _ => ?_) (fun _ => ?_))
  repeat' (first | refine aw_seq ?_ | refine zz ?_ | refine zon fun _ => ?_ | refine zoa fun vr lr hr => ?_ | ((have hq := fun {m} R => c2 (m := m) hL1 R; apply ao_callH (l := l1); exact wants_a; (exact oc_func rfl); (exact rfl); (exact cut_a); (exact hq _); rintro _ _ ⟨rfl, l2, rfl, hL2⟩; clear hq c2)) | refine zoS (fun _ => ?_) (fun _ => ?_) | refine zqS (fun _ => ?_) (fun _ => ?_) | refine zwS (fun _ => ?_) (fun _ => ?_))
  repeat' (first | refine aw_seq ?_ | refine zz ?_ | refine zon fun _ => ?_ | refine zoa fun vr lr hr => ?_ | ((have hq := fun {m} R => c3 (m := m) hL2 R; apply ao_callH (l := l2); exact wants_a; (exact oc_func rfl); (exact rfl); (exact cut_a); (exact hq _); rintro _ _ ⟨rfl, l3, rfl, hL3⟩; clear hq c3)) | refine zoS (fun _ => ?_) (fun _ => ?_) | refine zqS (fun _ => ?_) (fun _ => ?_) | refine zwS (fun _ => ?_) (fun _ => ?_))
  repeat' (first | refine aw_seq ?_ | refine zz ?_ | refine zon fun _ => ?_ | refine zoa fun vr lr hr => ?_ | ((have hq := fun {m} R => c4 (m := m) hL3 R; apply ao_callH (l := l3); exact wants_a; (exact oc_func rfl); (exact rfl); (exact cut_a); (exact hq _); rintro _ _ ⟨rfl, l4, rfl, hL4⟩; clear hq c4)) | refine zoS (fun _ => ?_) (fun _ => ?_) | refine zqS (fun _ => ?_) (fun _ => ?_) | refine zwS (fun _ => ?_) (fun _ => ?_))
  repeat' (first | refine aw_seq ?_ | refine zz ?_ | refine zon fun _ => ?_ | refine zoa fun vr lr hr => ?_ | ((have hq := fun {m} R => c5 (m := m) hL4 R; apply ao_callH (l := l4); exact wants_a; (exact oc_func rfl); (exact rfl); (exact cut_a); (exact hq _); rintro _ _ ⟨rfl, l5, rfl, hL5⟩; clear hq c5)) | refine zoS (fun _ => ?_) (fun _ => ?_) | refine zqS (fun _ => ?_) (fun _ => ?_) | refine zwS (fun _ => ?_) (fun _ => ?_))
  repeat' (first | refine aw_seq ?_ | refine zz ?_ | refine zon fun _ => ?_ | refine zoa fun vr lr hr => ?_ | ((have hq := fun {m} R => c6 (m := m) hL5 R; apply ao_callH (l := l5); exact wants_a; (exact oc_func rfl); (exact rfl); (exact cut_a); (exact hq _); rintro _ _ ⟨rfl, l6, rfl, hL6⟩; clear hq c6)) | refine zoS (fun _ => ?_) (fun _ => ?_) | refine zqS (fun _ => ?_) (fun _ => ?_) | refine zwS (fun _ => ?_) (fun _ => ?_))
  repeat' (first | refine aw_seq ?_ | refine zz ?_ | refine zon fun _ => ?_ | refine zoa fun vr lr hr => ?_ | ((have hq := fun {m} R => c7 (m := m) hL6 R; apply ao_callH (l := l6); exact wants_a; (exact oc_func rfl); (exact rfl); (exact cut_a); (exact hq _); rintro _ _ ⟨rfl, l7, rfl, hL7⟩; clear hq c7)) | refine zoS (fun _ => ?_) (fun _ => ?_) | refine zqS (fun _ => ?_) (fun _ => ?_) | refine zwS (fun _ => ?_) (fun _ => ?_))
  repeat' (first | refine aw_seq ?_ | refine zz ?_ | refine zon fun _ => ?_ | refine zoa fun vr lr hr => ?_ | ((have hq := fun {m} R => c8 (m := m) hL7 R; apply ao_callH (l := l7); exact wants_a; (exact oc_func rfl); (exact rfl); (exact cut_a); (exact hq _); rintro _ _ ⟨rfl, l8, rfl, hL8⟩; clear hq c8)) | refine zoS (fun _ => ?_) (fun _ => ?_) | refine zqS (fun _ => ?_) (fun _ => ?_) | refine zwS (fun _ => ?_) (fun _ => ?_))
  repeat' (first | refine aw_seq ?_ | refine zz ?_ | refine zon fun _ => ?_ | refine zoa fun vr lr hr => ?_ | ((have hq := fun {m} R => c9 (m := m) hL8 R; apply ao_callH (l := l8); exact wants_a; (exact oc_func rfl); (exact rfl); (exact cut_a); (exact hq _); rintro _ _ ⟨rfl, l9, rfl, hL9⟩; clear hq c9)) | refine zoS (fun _ => ?_) (fun _ => ?_) | refine zqS (fun _ => ?_) (fun _ => ?_) | refine zwS (fun _ => ?_) (fun _ => ?_))
  clear hL0 hL1 hL2 hL3 hL4 hL5 hL6 hL7 hL8
  have hp := fun w' (hl : Lies w' l9) => tpar_ok hL9 f4 nc w' hl
  have hh := fun w' (hl : Lies w' l9) => thas_ok hL9 f4 nb w' hl
  have hpa := fun w' (hl : Lies w' l9) => tpath_ok hL9 f4 nb w' hl
  have hch := fun w' (hl : Lies w' l9) => tchild_ok hL9 f4 rootN w' hl
  have hbe := fun w' (hl : Lies w' l9) => tbelow_ok hL9 f4 na w' hl
  have hal := fun w' (hl : Lies w' l9) => tall_ok hL9 f4 w' hl
  rw [show parT T4 nc = rootN by kernel_rfl] at hp
  rw [show hasT T4 nb = true by kernel_rfl] at hh
  rw [show pathT T4 nb = [nb, na, rootN] by kernel_rfl] at hpa
  rw [show childT T4 rootN = [na, nc] by kernel_rfl] at hch
  rw [show belowT T4 na = [na, nb] by kernel_rfl] at hbe
  rw [show List.map (·.1) T4 = [na, nb, nc, rootN] by kernel_rfl] at hal
  have h1 := same_ok [nb, na, rootN] (by decide)
  have h2 := same_ok [na, nc] (by decide)
  have h3 := same_ok [na, nb] (by decide)
  have h4 := same_ok [na, nb, nc, rootN] (by decide)
  repeat' (first | refine aw_seq ?_ | refine zz ?_ | refine zon fun _ => ?_ | refine zoa fun vr lr hr => ?_ | ((first | apply ao_call | apply aq_call); exact wants_a; (first | exact oc_func rfl | exact oc_clos rfl rfl | exact oc_bnd rfl rfl); (exact rfl); (first | exact fun w hw => h1 _ _ w (hw.oldr (by assumption) cut_a) (hw.oldr (row_lit rfl rfl) cut_a) | exact fun w hw => h2 _ _ w (hw.oldr (by assumption) cut_a) (hw.oldr (row_lit rfl rfl) cut_a) | exact fun w hw => h3 _ _ w (hw.oldr (by assumption) cut_a) (hw.oldr (row_lit rfl rfl) cut_a) | exact fun w hw => h4 _ _ w (hw.oldr (by assumption) cut_a) (hw.oldr (row_lit rfl rfl) cut_a) | exact fun w hw => hp w (lies_of hw (l := l9) cut_a) | exact fun w hw => hh w (lies_of hw (l := l9) cut_a))) | (apply ao_callr; exact wants_a; (exact oc_func rfl); (exact rfl); (first | exact fun w hw => hpa w (lies_of hw (l := l9) cut_a) | exact fun w hw => hch w (lies_of hw (l := l9) cut_a) | exact fun w hw => hbe w (lies_of hw (l := l9) cut_a) | exact fun w hw => hal w (lies_of hw (l := l9) cut_a)); intro vr lr hr) | refine zoS (fun _ => ?_) (fun _ => ?_) | refine zqS (fun _ => ?_) (fun _ => ?_) | refine zwS (fun _ => ?_) (fun _ => ?_))
  clear hp hh hpa hch hbe hal
  have hn := fun {l : Hp} (h : LTr T5 g l) w' (hl : Lies w' l) => thas_ok h f5 nb w' hl
  rw [show hasT T5 nb = false by kernel_rfl] at hn
  repeat' (first | refine aw_seq ?_ | refine zz ?_ | refine zon fun _ => ?_ | refine zoa fun vr lr hr => ?_ | ((have hq := fun {m} R => cA (m := m) hL9 R; apply ao_callH (l := l9); exact wants_a; (exact oc_func rfl); (exact rfl); (exact cut_a); (exact hq _); rintro _ _ ⟨rfl, lA, rfl, hLA⟩; clear hq cA)) | refine zoS (fun _ => ?_) (fun _ => ?_) | refine zqS (fun _ => ?_) (fun _ => ?_) | refine zwS (fun _ => ?_) (fun _ => ?_))
  repeat' (first | refine aw_seq ?_ | refine zz ?_ | refine zon fun _ => ?_ | refine zoa fun vr lr hr => ?_ | ((first | apply ao_call | apply aq_call); exact wants_a; (first | exact oc_func rfl | exact oc_clos rfl rfl | exact oc_bnd rfl rfl); (exact rfl); (first | exact fun w hw => hn hLA w (lies_of hw (l := lA) cut_a))) | refine zoS (fun _ => ?_) (fun _ => ?_) | refine zqS (fun _ => ?_) (fun _ => ?_) | refine zwS (fun _ => ?_) (fun _ => ?_))
  exact fun w' hw => ⟨rfl, hw.below⟩
end Trt
end Go.Proofs.Ytoeidecnfkogdaa
