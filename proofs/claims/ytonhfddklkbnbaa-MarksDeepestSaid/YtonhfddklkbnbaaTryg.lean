/- The landed tree in the own heap: New, Create, Remove, Move; conditions: at most 200 nodes. -/
import Derived.Test.YtonhfddklkbnbaaTryf
namespace Go.Proofs.Ytonhfddklkbnbaa
namespace Trt
open Go Go.RowKit Sx
attribute [local irreducible] Go.Calls

theorem newL_ok (w : World) : Calls Try.prog 8 #[] w fun e w' => ∃ r, e = .returned r ∧ NewD (fun r l => ∃ g, r = .pointer (some ⟨g, 0, none⟩) ∧ LTr Tr.new g l) w w' r := by
  refine calls1 (args := []) Try.func8 rfl rfl rfl rfl ?_
  repeat' (first | refine aw_seq ?_ | refine zz ?_ | refine zon fun _ => ?_ | refine zoa fun vr lr hr => ?_ | refine zoS (fun _ => ?_) (fun _ => ?_) | refine zqS (fun _ => ?_) (fun _ => ?_) | refine zwS (fun _ => ?_) (fun _ => ?_))
  exact fun w' hw => ⟨_, rfl, hw.toD rfl (l := [_]) (R := []) (List.Perm.refl _) ⟨_, rfl, ltr_new⟩⟩
set_option maxHeartbeats 32000000 in
set_option maxRecDepth 20000 in
theorem createL_ok {m : Nat} {w0 : World} {t : Tr} {g : Nat} {l : Hp} (h : LTr t g l) (hf : FitT t) (n p : Nm) (R : Hp) :
    CallsH Try.prog ⟨w0.heap.size, w0, m⟩ 27 [.pointer (some ⟨g, 0, none⟩), S n, S p] (l ++ R) (LDid g (createT (Lab.rightB n) t n p) R) := by
  have hwf := hf.wf
  have hl := hf.len2
  have hl2 := hf.len
  obtain ⟨mo, X, c, lM, rfl, hM, hX⟩ := h
  rw [List.cons_append]
  refine callsH1p (args := [.pointer (some ⟨g, 0, none⟩), S n, S p]) Try.func27 rfl rfl rfl rfl ?_
  have same : ∀ er : Int, LDid g (er, t) R (I er) ((g, .cells #[.map mo] 60 (0, 0)) :: (lM ++ R)) := fun er => ⟨rfl, _, by rw [← List.cons_append], mo, X, c, lM, rfl, hM, hX⟩
  have hrt := fun w => Lab.right_ok n w
  have hh := fun w' (h : PAt w' g t mo X c) => hasP_ok h n
  have hp := fun w' (h : PAt w' g t mo X c) => hasP_ok h p
  have hd := fun w' (h : PAt w' g t mo X c) => depth_ok h.q (.inr hwf) p
  have hc := fun w' (h : PAt w' g t mo X c) => count_ok h hl
  have hd8 := good_len (.inr hwf) p
  unfold createT
  cases hr : Lab.rightB n
  · rw [if_pos rfl]
    rw [hr] at hrt
    repeat' (first | refine aw_seq ?_ | ((first | apply ao_val | apply aq_val); exact wants_a; (first | exact ov_nilcheck rfl | exact ov_peqs rfl rfl | exact ov_a); (exact rfl)) | refine zy ?_ | refine zon fun _ => ?_ | refine zoa fun vr lr hr => ?_ | ((first | apply ao_call | apply aq_call); exact wants_a; (first | exact oc_func rfl | exact oc_clos rfl rfl | exact oc_bnd rfl rfl); (exact rfl); (first | exact fun w hw => hrt w)) | refine zoS (fun _ => ?_) (fun _ => ?_) | refine zqS (fun _ => ?_) (fun _ => ?_) | refine zwS (fun _ => ?_) (fun _ => ?_))
    exact ⟨_, _, hsub_a, List.Perm.refl _, same 1⟩
  rw [if_neg (by decide)]
  rw [hr] at hrt
  cases hx : hasT t n
  rotate_left
  · rw [if_pos rfl]
    rw [hx] at hh
    repeat' (first | refine aw_seq ?_ | ((first | apply ao_val | apply aq_val); exact wants_a; (first | exact ov_nilcheck rfl | exact ov_peqs rfl rfl | exact ov_a); (exact rfl)) | refine zy ?_ | refine zon fun _ => ?_ | refine zoa fun vr lr hr => ?_ | ((first | apply ao_call | apply aq_call); exact wants_a; (first | exact oc_func rfl | exact oc_clos rfl rfl | exact oc_bnd rfl rfl); (exact rfl); (first | exact fun w hw => hrt w | exact fun w hw => hh w (pat_of hw has_a hM hX hwf cut_a))) | refine zoS (fun _ => ?_) (fun _ => ?_) | refine zqS (fun _ => ?_) (fun _ => ?_) | refine zwS (fun _ => ?_) (fun _ => ?_))
    exact ⟨_, _, hsub_a, List.Perm.refl _, same 5⟩
  rw [if_neg (by decide)]
  rw [hx] at hh
  cases hy : hasT t p
  · rw [if_pos rfl]
    rw [hy] at hp
    repeat' (first | refine aw_seq ?_ | ((first | apply ao_val | apply aq_val); exact wants_a; (first | exact ov_nilcheck rfl | exact ov_peqs rfl rfl | exact ov_a); (exact rfl)) | refine zy ?_ | refine zon fun _ => ?_ | refine zoa fun vr lr hr => ?_ | ((first | apply ao_call | apply aq_call); exact wants_a; (first | exact oc_func rfl | exact oc_clos rfl rfl | exact oc_bnd rfl rfl); (exact rfl); (first | exact fun w hw => hrt w | exact fun w hw => hh w (pat_of hw has_a hM hX hwf cut_a) | exact fun w hw => hp w (pat_of hw has_a hM hX hwf cut_a))) | refine zoS (fun _ => ?_) (fun _ => ?_) | refine zqS (fun _ => ?_) (fun _ => ?_) | refine zwS (fun _ => ?_) (fun _ => ?_))
    exact ⟨_, _, hsub_a, List.Perm.refl _, same 4⟩
  rw [if_neg (by decide)]
  rw [hy] at hp
  by_cases h8 : 8 < (pathT t p).length + 1
  · rw [if_pos h8]
    repeat' (first | refine aw_seq ?_ | ((first | apply ao_val | apply aq_val); exact wants_a; (first | exact ov_nilcheck rfl | exact ov_peqs rfl rfl | exact ov_a); (exact rfl)) | refine zy ?_ | refine zon fun _ => ?_ | refine zoa fun vr lr hr => ?_ | ((first | apply ao_call | apply aq_call); exact wants_a; (first | exact oc_func rfl | exact oc_clos rfl rfl | exact oc_bnd rfl rfl); (exact rfl); (first | exact fun w hw => hrt w | exact fun w hw => hh w (pat_of hw has_a hM hX hwf cut_a) | exact fun w hw => hp w (pat_of hw has_a hM hX hwf cut_a) | exact fun w hw => hd w (pat_of hw has_a hM hX hwf cut_a))) | refine zoS (fun _ => ?_) (fun _ => ?_) | refine zqS (fun _ => ?_) (fun _ => ?_) | refine zwS (fun _ => ?_) (fun _ => ?_))
    exact ⟨_, _, hsub_a, List.Perm.refl _, same 9⟩
  rw [if_neg h8]
  by_cases h200 : 200 < t.length + 1
  · rw [if_pos h200]
    repeat' (first | refine aw_seq ?_ | ((first | apply ao_val | apply aq_val); exact wants_a; (first | exact ov_nilcheck rfl | exact ov_peqs rfl rfl | exact ov_a); (exact rfl)) | refine zy ?_ | refine zon fun _ => ?_ | refine zoa fun vr lr hr => ?_ | ((first | apply ao_call | apply aq_call); exact wants_a; (first | exact oc_func rfl | exact oc_clos rfl rfl | exact oc_bnd rfl rfl); (exact rfl); (first | exact fun w hw => hrt w | exact fun w hw => hh w (pat_of hw has_a hM hX hwf cut_a) | exact fun w hw => hp w (pat_of hw has_a hM hX hwf cut_a) | exact fun w hw => hd w (pat_of hw has_a hM hX hwf cut_a) | exact fun w hw => hc w (pat_of hw has_a hM hX hwf cut_a))) | refine zoS (fun _ => ?_) (fun _ => ?_) | refine zqS (fun _ => ?_) (fun _ => ?_) | refine zwS (fun _ => ?_) (fun _ => ?_))
    exact ⟨_, _, hsub_a, List.Perm.refl _, same 3⟩
  rw [if_neg h200]
  obtain ⟨hX', hf0⟩ := hX.ins hwf (p := p) hx
  have hput := fun {E : Env} {t : Tm} {H : Hp} {ty : TypeId} {x y z : Operand} {b : Nat} h1 h2 h3 h4 => ow_mput (P := Try.prog) (E := E) (t := t) (H := H) (ty := ty) (mt := 58) (kt := 9) (et := 9) (enc := encS) (k := n) (u := S p) (x := x) (y := y) (z := z) (b := b) (c := c) h1 h2 h3 h4 hf0
  repeat' (first | refine aw_cutI_at (id := 13) (fun tm H => ∃ b, tm = [(0, .pointer (some ⟨g, 0, none⟩)), (1, S n), (2, S p)] ∧ H.Perm ((g, .cells #[.map (some b)] 60 (0, 0)) :: (b, mapO encS X c) :: R)) ?_ ?_ | refine aw_cutI_at2 (id := 13) (fun tm H => ∃ b, tm = [(0, .pointer (some ⟨g, 0, none⟩)), (1, S n), (2, S p)] ∧ H.Perm ((g, .cells #[.map (some b)] 60 (0, 0)) :: (b, mapO encS X c) :: R)) ?_ ?_ | refine aw_seq ?_ | ((first | apply ao_val | apply aq_val); exact wants_a; (first | exact ov_nilcheck rfl | exact ov_peqs rfl rfl | exact ov_a); (exact rfl)) | refine zy ?_ | refine zon fun _ => ?_ | refine zoa fun vr lr hr => ?_ | ((first | apply ao_call | apply aq_call); exact wants_a; (first | exact oc_func rfl | exact oc_clos rfl rfl | exact oc_bnd rfl rfl); (exact rfl); (first | exact fun w hw => hrt w | exact fun w hw => hh w (pat_of hw has_a hM hX hwf cut_a) | exact fun w hw => hp w (pat_of hw has_a hM hX hwf cut_a) | exact fun w hw => hd w (pat_of hw has_a hM hX hwf cut_a) | exact fun w hw => hc w (pat_of hw has_a hM hX hwf cut_a))))
  · rcases hM with ⟨rfl, hX0, rfl, rfl⟩ | ⟨b, rfl, rfl⟩
    · rw [hX0]
      repeat' (first | refine aw_seq ?_ | ((first | apply ao_val | apply aq_val); exact wants_a; (first | exact ov_nilcheck rfl | exact ov_meq0 rfl rfl | exact ov_a); (exact rfl)) | refine zy ?_ | refine zon fun _ => ?_ | refine zoa fun vr lr hr => ?_ | (apply ao_new; exact wants_a; exact on_makeMap; exact rfl; intro bm) | refine zoS (fun _ => ?_) (fun _ => ?_) | refine zqS (fun _ => ?_) (fun _ => ?_) | refine zwS (fun _ => ?_) (fun _ => ?_))
      exact ci_normal ⟨_, rfl, List.Perm.swap _ _ _⟩ (by repeat (first | exact sub_nil | refine sub_cons rfl ?_)) (List.Sublist.refl _)
    · repeat' (first | refine aw_seq ?_ | ((first | apply ao_val | apply aq_val); exact wants_a; (first | exact ov_nilcheck rfl | exact ov_meqs rfl rfl | exact ov_a); (exact rfl)) | refine zy ?_ | refine zon fun _ => ?_ | refine zoa fun vr lr hr => ?_ | refine zoS (fun _ => ?_) (fun _ => ?_) | refine zqS (fun _ => ?_) (fun _ => ?_) | refine zwS (fun _ => ?_) (fun _ => ?_))
      exact ci_normal ⟨b, rfl, List.Perm.refl _⟩ (by repeat (first | exact sub_nil | refine sub_cons rfl ?_)) (List.Sublist.refl _)
  rintro tm H ⟨b, rfl, hpm⟩
  refine aw_permH hpm ?_
  clear hpm
  repeat' (first | refine aw_seq ?_ | ((first | apply ao_val | apply aq_val); exact wants_a; (first | exact ov_nilcheck rfl | exact ov_a); (exact rfl)) | refine zy ?_ | refine zon fun _ => ?_ | refine zoa fun vr lr hr => ?_ | ((apply ao_store; exact wants_a; (exact hput rfl rfl rfl (mapAt_has has_a)); exact upd_a)) | refine zoS (fun _ => ?_) (fun _ => ?_) | refine zqS (fun _ => ?_) (fun _ => ?_) | refine zwS (fun _ => ?_) (fun _ => ?_))
  exact ⟨_, _, hsub_a, List.Perm.refl _, rfl, [_, _], rfl, some b, _, _, [_], rfl, .inr ⟨b, rfl, rfl⟩, hX'⟩
set_option maxHeartbeats 32000000 in
theorem removeL_ok {m : Nat} {w0 : World} {t : Tr} {g : Nat} {l : Hp} (h : LTr t g l) (hf : FitT t) (n : Nm) (R : Hp) :
    CallsH Try.prog ⟨w0.heap.size, w0, m⟩ 29 [.pointer (some ⟨g, 0, none⟩), S n] (l ++ R) (LDid g (removeT t n) R) := by
  have hwf := hf.wf
  have hl := hf.len2
  obtain ⟨mo, X, c, lM, rfl, hM, hX⟩ := h
  rw [List.cons_append]
  refine callsH1p (args := [.pointer (some ⟨g, 0, none⟩), S n]) Try.func29 rfl rfl rfl rfl ?_
  have same : ∀ er : Int, LDid g (er, t) R (I er) ((g, .cells #[.map mo] 60 (0, 0)) :: (lM ++ R)) := fun er => ⟨rfl, _, by rw [← List.cons_append], mo, X, c, lM, rfl, hM, hX⟩
  have hh := fun w' (h : PAt w' g t mo X c) => hasP_ok h n
  have hc := fun w' (h : PAt w' g t mo X c) => childQ_ok h.q (.inr hwf) hl n
  have hcl : (childT t n).length ≤ 1000 := by
    unfold childT
    rw [List.length_map]
    have := List.length_filter_le (fun e : Nm × Nm => decide (e.2 = n) && decide (e.1 ≠ rootN)) t
    omega
  unfold removeT
  cases hx : hasT t n
  · rw [if_pos rfl]
    rw [hx] at hh
    repeat' (first | refine aw_seq ?_ | ((first | apply ao_val | apply aq_val); exact wants_a; (first | exact ov_nilcheck rfl | exact ov_peqs rfl rfl | exact ov_a); (exact rfl)) | refine zy ?_ | refine zon fun _ => ?_ | refine zoa fun vr lr hr => ?_ | ((first | apply ao_call | apply aq_call); exact wants_a; (first | exact oc_func rfl | exact oc_clos rfl rfl | exact oc_bnd rfl rfl); (exact rfl); (first | exact fun w hw => hh w (pat_of hw has_a hM hX hwf cut_a))) | refine zoS (fun _ => ?_) (fun _ => ?_) | refine zqS (fun _ => ?_) (fun _ => ?_) | refine zwS (fun _ => ?_) (fun _ => ?_))
    exact ⟨_, _, hsub_a, List.Perm.refl _, same 4⟩
  rw [if_neg (by decide)]
  have hh2 := hh
  rw [hx] at hh
  by_cases hrt : n = rootN
  · rw [if_pos hrt]
    subst hrt
    repeat' (first | refine aw_seq ?_ | ((first | apply ao_val | apply aq_val); exact wants_a; (first | exact ov_nilcheck rfl | exact ov_peqs rfl rfl | exact ov_a); (exact rfl)) | refine zy ?_ | refine zon fun _ => ?_ | refine zoa fun vr lr hr => ?_ | ((first | apply ao_call | apply aq_call); exact wants_a; (first | exact oc_func rfl | exact oc_clos rfl rfl | exact oc_bnd rfl rfl); (exact rfl); (first | exact fun w hw => hh w (pat_of hw has_a hM hX hwf cut_a))) | refine zoS (fun _ => ?_) (fun _ => ?_) | refine zqS (fun _ => ?_) (fun _ => ?_) | refine zwS (fun _ => ?_) (fun _ => ?_))
    exact ⟨_, _, hsub_a, List.Perm.refl _, same 1⟩
  rw [if_neg hrt]
  have er : (n == rootN) = false := beq_eq_false_iff_ne.2 hrt
  by_cases hch : childT t n ≠ []
  · rw [if_pos hch]
    have hpos : (0 : Int) < (childT t n).length := by have := List.length_pos_iff.2 hch; omega
    repeat' (first | refine aw_seq ?_ | ((first | apply ao_val | apply aq_val); exact wants_a; (first | exact ov_nilcheck rfl | exact ov_peqs rfl rfl | exact ov_lenr rfl hr | exact ov_a); (exact rfl)) | refine zy ?_ | refine zon fun _ => ?_ | refine zoa fun vr lr hr => ?_ | ((first | apply ao_call | apply aq_call); exact wants_a; (first | exact oc_func rfl | exact oc_clos rfl rfl | exact oc_bnd rfl rfl); (exact rfl); (first | exact fun w hw => hh w (pat_of hw has_a hM hX hwf cut_a))) | (apply ao_callr; exact wants_a; (exact oc_func rfl); (exact rfl); (first | exact fun w hw => hc w (pat_of hw has_a hM hX hwf cut_a)); intro vr lr hr) | refine zoS (fun _ => ?_) (fun _ => ?_) | refine zqS (fun _ => ?_) (fun _ => ?_) | refine zwS (fun _ => ?_) (fun _ => ?_))
    exact ⟨_, _, hsub_a, List.Perm.refl _, same 10⟩
  rw [if_neg hch]
  have hch2 : childT t n = [] := by simpa using hch
  rw [hch2] at hc
  obtain ⟨-, i, v, hfs⟩ := hX.set hwf (p := []) hx hrt
  have hX' := hX.rem n
  rcases hM with ⟨rfl, hX0, -, -⟩ | ⟨b, rfl, rfl⟩
  · rw [hX0] at hfs; cases hfs
  have hM : MapS (some b) X c [(b, mapO encS X c)] := .inr ⟨b, rfl, rfl⟩
  have hdel := fun {E : Env} {t : Tm} {H : Hp} {ty : TypeId} {x y : Operand} h1 h2 h3 => ow_mdel (P := Try.prog) (E := E) (t := t) (H := H) (ty := ty) (mt := 58) (kt := 9) (et := 9) (enc := encS) (k := n) (x := x) (y := y) (b := b) (c := c) (es := X) h1 h2 h3
  repeat' (first | refine aw_seq ?_ | ((first | apply ao_val | apply aq_val); exact wants_a; (first | exact ov_nilcheck rfl | exact ov_peqs rfl rfl | exact ov_lenr rfl hr | exact ov_a); (exact rfl)) | refine zy ?_ | refine zon fun _ => ?_ | refine zoa fun vr lr hr => ?_ | ((first | apply ao_call | apply aq_call); exact wants_a; (first | exact oc_func rfl | exact oc_clos rfl rfl | exact oc_bnd rfl rfl); (exact rfl); (first | exact fun w hw => hh w (pat_of hw has_a hM hX hwf cut_a))) | (apply ao_callr; exact wants_a; (exact oc_func rfl); (exact rfl); (first | exact fun w hw => hc w (pat_of hw has_a hM hX hwf cut_a)); intro vr lr hr) | ((apply ao_valw0; exact wants_a; (exact hdel rfl rfl (mapAt_has has_a)); exact upd_a)) | refine zoS (fun _ => ?_) (fun _ => ?_) | refine zqS (fun _ => ?_) (fun _ => ?_) | refine zwS (fun _ => ?_) (fun _ => ?_))
  exact ⟨(g, .cells #[.map (some b)] 60 (0, 0)) :: ((b, mapO encS (delK n X) c) :: R), _, hsub_a, List.Perm.refl _, rfl, [_, _], rfl, some b, _, _, [_], rfl, .inr ⟨b, rfl, rfl⟩, hX'⟩
set_option maxHeartbeats 32000000 in
theorem moveL_ok {m : Nat} {w0 : World} {t : Tr} {g : Nat} {l : Hp} (h : LTr t g l) (hf : FitT t) (n p : Nm) (R : Hp) :
    CallsH Try.prog ⟨w0.heap.size, w0, m⟩ 28 [.pointer (some ⟨g, 0, none⟩), S n, S p] (l ++ R) (LDid g (moveT t n p) R) := by
  have hwf := hf.wf
  have hl := hf.len2
  obtain ⟨mo, X, c, lM, rfl, hM, hX⟩ := h
  rw [List.cons_append]
  refine callsH1p (args := [.pointer (some ⟨g, 0, none⟩), S n, S p]) Try.func28 rfl rfl rfl rfl ?_
  have same : ∀ er : Int, LDid g (er, t) R (I er) ((g, .cells #[.map mo] 60 (0, 0)) :: (lM ++ R)) := fun er => ⟨rfl, _, by rw [← List.cons_append], mo, X, c, lM, rfl, hM, hX⟩
  have hh := fun w' (h : PAt w' g t mo X c) => hasP_ok h n
  have hp := fun w' (h : PAt w' g t mo X c) => hasP_ok h p
  have hi := fun w' (h : PAt w' g t mo X c) => within_ok h.q (.inr hwf) p n
  have hd := fun w' (h : PAt w' g t mo X c) => depth_ok h.q (.inr hwf) p
  have hg := fun w' (h : PAt w' g t mo X c) => height_ok h.q (.inr hwf) hl n
  have hd8 := good_len (.inr hwf) p
  have hd9 := good_len (.inr hwf) n
  have hh8 := hiT_le (.inr hwf) (belowT t n)
  unfold moveT
  cases hx : hasT t n
  · rw [if_pos (.inl rfl)]
    rw [hx] at hh
    repeat' (first | refine aw_seq ?_ | ((first | apply ao_val | apply aq_val); exact wants_a; (first | exact ov_nilcheck rfl | exact ov_peqs rfl rfl | exact ov_a); (exact rfl)) | refine zy ?_ | refine zon fun _ => ?_ | refine zoa fun vr lr hr => ?_ | ((first | apply ao_call | apply aq_call); exact wants_a; (first | exact oc_func rfl | exact oc_clos rfl rfl | exact oc_bnd rfl rfl); (exact rfl); (first | exact fun w hw => hh w (pat_of hw has_a hM hX hwf cut_a))) | refine zoS (fun _ => ?_) (fun _ => ?_) | refine zqS (fun _ => ?_) (fun _ => ?_) | refine zwS (fun _ => ?_) (fun _ => ?_))
    exact ⟨_, _, hsub_a, List.Perm.refl _, same 4⟩
  rw [hx] at hh
  cases hy : hasT t p
  · rw [if_pos (.inr rfl)]
    rw [hy] at hp
    repeat' (first | refine aw_seq ?_ | ((first | apply ao_val | apply aq_val); exact wants_a; (first | exact ov_nilcheck rfl | exact ov_peqs rfl rfl | exact ov_a); (exact rfl)) | refine zy ?_ | refine zon fun _ => ?_ | refine zoa fun vr lr hr => ?_ | ((first | apply ao_call | apply aq_call); exact wants_a; (first | exact oc_func rfl | exact oc_clos rfl rfl | exact oc_bnd rfl rfl); (exact rfl); (first | exact fun w hw => hh w (pat_of hw has_a hM hX hwf cut_a) | exact fun w hw => hp w (pat_of hw has_a hM hX hwf cut_a))) | refine zoS (fun _ => ?_) (fun _ => ?_) | refine zqS (fun _ => ?_) (fun _ => ?_) | refine zwS (fun _ => ?_) (fun _ => ?_))
    exact ⟨_, _, hsub_a, List.Perm.refl _, same 4⟩
  rw [if_neg (by decide)]
  rw [hy] at hp
  by_cases hrt : n = rootN
  · rw [if_pos hrt]
    subst hrt
    repeat' (first | refine aw_seq ?_ | ((first | apply ao_val | apply aq_val); exact wants_a; (first | exact ov_nilcheck rfl | exact ov_peqs rfl rfl | exact ov_a); (exact rfl)) | refine zy ?_ | refine zon fun _ => ?_ | refine zoa fun vr lr hr => ?_ | ((first | apply ao_call | apply aq_call); exact wants_a; (first | exact oc_func rfl | exact oc_clos rfl rfl | exact oc_bnd rfl rfl); (exact rfl); (first | exact fun w hw => hh w (pat_of hw has_a hM hX hwf cut_a) | exact fun w hw => hp w (pat_of hw has_a hM hX hwf cut_a))) | refine zoS (fun _ => ?_) (fun _ => ?_) | refine zqS (fun _ => ?_) (fun _ => ?_) | refine zwS (fun _ => ?_) (fun _ => ?_))
    exact ⟨_, _, hsub_a, List.Perm.refl _, same 1⟩
  rw [if_neg hrt]
  have er : (n == rootN) = false := beq_eq_false_iff_ne.2 hrt
  by_cases hcy : n ∈ pathT t p
  · rw [if_pos hcy]
    rw [decide_eq_true hcy] at hi
    repeat' (first | refine aw_seq ?_ | ((first | apply ao_val | apply aq_val); exact wants_a; (first | exact ov_nilcheck rfl | exact ov_peqs rfl rfl | exact ov_a); (exact rfl)) | refine zy ?_ | refine zon fun _ => ?_ | refine zoa fun vr lr hr => ?_ | ((first | apply ao_call | apply aq_call); exact wants_a; (first | exact oc_func rfl | exact oc_clos rfl rfl | exact oc_bnd rfl rfl); (exact rfl); (first | exact fun w hw => hh w (pat_of hw has_a hM hX hwf cut_a) | exact fun w hw => hp w (pat_of hw has_a hM hX hwf cut_a) | exact fun w hw => hi w (pat_of hw has_a hM hX hwf cut_a))) | refine zoS (fun _ => ?_) (fun _ => ?_) | refine zqS (fun _ => ?_) (fun _ => ?_) | refine zwS (fun _ => ?_) (fun _ => ?_))
    exact ⟨_, _, hsub_a, List.Perm.refl _, same 8⟩
  rw [if_neg hcy]
  rw [decide_eq_false hcy] at hi
  have htd := hwf.too_deep hx hy hcy
  obtain ⟨D, hD⟩ : ∃ D : Int, D = ((hiT t (belowT t n) : Int) - (pathT t n).length + 1) := ⟨_, rfl⟩
  rw [← hD] at hg htd
  have hDb : -10 ≤ D ∧ D ≤ 10 := by omega
  by_cases h8 : (8 : Int) < (pathT t p).length + D
  · rw [decide_eq_true h8] at htd
    rw [if_pos htd]
    repeat' (first | refine aw_seq ?_ | ((first | apply ao_val | apply aq_val); exact wants_a; (first | exact ov_nilcheck rfl | exact ov_peqs rfl rfl | exact ov_a); (exact rfl)) | refine zy ?_ | refine zon fun _ => ?_ | refine zoa fun vr lr hr => ?_ | ((first | apply ao_call | apply aq_call); exact wants_a; (first | exact oc_func rfl | exact oc_clos rfl rfl | exact oc_bnd rfl rfl); (exact rfl); (first | exact fun w hw => hh w (pat_of hw has_a hM hX hwf cut_a) | exact fun w hw => hp w (pat_of hw has_a hM hX hwf cut_a) | exact fun w hw => hi w (pat_of hw has_a hM hX hwf cut_a) | exact fun w hw => hd w (pat_of hw has_a hM hX hwf cut_a) | exact fun w hw => hg w (pat_of hw has_a hM hX hwf cut_a))) | refine zoS (fun _ => ?_) (fun _ => ?_) | refine zqS (fun _ => ?_) (fun _ => ?_) | refine zwS (fun _ => ?_) (fun _ => ?_))
    exact ⟨_, _, hsub_a, List.Perm.refl _, same 9⟩
  · rw [decide_eq_false h8] at htd
    rw [if_neg (by rw [htd]; decide)]
    obtain ⟨hX', i, v, hfs⟩ := hX.set hwf (p := p) hx hrt
    rcases hM with ⟨rfl, hX0, -, -⟩ | ⟨b, rfl, rfl⟩
    · rw [hX0] at hfs; cases hfs
    have hM : MapS (some b) X c [(b, mapO encS X c)] := .inr ⟨b, rfl, rfl⟩
    have hset := fun {E : Env} {t : Tm} {H : Hp} {ty : TypeId} {x y z : Operand} h1 h2 h3 h4 => ow_mset (P := Try.prog) (E := E) (t := t) (H := H) (ty := ty) (mt := 58) (kt := 9) (et := 9) (enc := encS) (k := n) (u := S p) (x := x) (y := y) (z := z) (b := b) (c := c) h1 h2 h3 h4 hfs
    repeat' (first | refine aw_seq ?_ | ((first | apply ao_val | apply aq_val); exact wants_a; (first | exact ov_nilcheck rfl | exact ov_peqs rfl rfl | exact ov_a); (exact rfl)) | refine zy ?_ | refine zon fun _ => ?_ | refine zoa fun vr lr hr => ?_ | ((first | apply ao_call | apply aq_call); exact wants_a; (first | exact oc_func rfl | exact oc_clos rfl rfl | exact oc_bnd rfl rfl); (exact rfl); (first | exact fun w hw => hh w (pat_of hw has_a hM hX hwf cut_a) | exact fun w hw => hp w (pat_of hw has_a hM hX hwf cut_a) | exact fun w hw => hi w (pat_of hw has_a hM hX hwf cut_a) | exact fun w hw => hd w (pat_of hw has_a hM hX hwf cut_a) | exact fun w hw => hg w (pat_of hw has_a hM hX hwf cut_a))) | ((apply ao_store; exact wants_a; (exact hset rfl rfl rfl (mapAt_has has_a)); exact upd_a)) | refine zoS (fun _ => ?_) (fun _ => ?_) | refine zqS (fun _ => ?_) (fun _ => ?_) | refine zwS (fun _ => ?_) (fun _ => ?_))
    exact ⟨(g, .cells #[.map (some b)] 60 (0, 0)) :: ((b, mapO encS (setK n (S p) X) c) :: R), _, hsub_a, List.Perm.refl _, rfl, [_, _], rfl, some b, _, _, [_], rfl, .inr ⟨b, rfl, rfl⟩, hX'⟩
end Trt
end Go.Proofs.Ytonhfddklkbnbaa
