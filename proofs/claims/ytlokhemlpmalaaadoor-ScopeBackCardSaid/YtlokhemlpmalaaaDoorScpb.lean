/- Walk of layer 6: ScopeBack; conditions: what the landed code reads. -/
import Derived.Test.YtlokhemlpmalaaaDoorScpl
import Derived.Test.YtlokhemlpmalaaaDoorScpx
import Derived.Test.YtlokhemlpmalaaaDoorScpn
namespace Go.Proofs.YtlokhemlpmalaaaDoor
namespace Scp
open Go Go.RowKit Sx Lab
attribute [local irreducible] Go.Calls

/-- What Parse gives may be handed on. -/
theorem wf_parse {l : Nm} {ps : List (Value × Trm)} (h : trms ps = (parseS l).1) : wfP ps := by
  have key : ps.length ≤ 10001 ∧ ∀ t ∈ trms ps, wfN t.2 := by
    have hlen : ps.length = (trms ps).length := List.length_map _ |>.symm
    rw [hlen, h]
    rcases parse_facts l with ⟨ts, hp, hr, -⟩ | hp
    · rw [hp]
      obtain ⟨h8, hall⟩ := right_all hr
      exact ⟨by simp only; omega, fun t ht => by
        obtain ⟨q1, q2⟩ := term_vals (hall t ht)
        exact ⟨by omega, fun v hv => by have := right_len (q2 v hv); omega⟩⟩
    · rw [hp]
      exact ⟨by simp, fun t ht => by cases ht⟩
  exact ⟨by omega, fun p hp => key.2 p.2 (List.mem_map_of_mem hp)⟩

set_option maxHeartbeats 64000000 in
theorem back_ok (l : Nm) (vb : Value) (qs : List (Value × Trm)) (hcp : CapP qs) (w : World) (hG : Glo w) (hvb : ScpAt w vb qs) :
    Calls Tryd.prog 4 #[S l, vb] w fun e w' => e = .returned (.bool true) ∧ Below w.heap.size w w' := by
  obtain ⟨br, dr, rfl, -⟩ := OldRow.cells cellsT_len hvb.1
  refine calls1 (args := [S l, .slice br qs.length dr]) Tryd.func4 rfl rfl rfl rfl ?_
  have f1 := fun w' (hb : Below w.heap.size w w') => fits_ok _ qs w' (hvb.below hb)
  cases h1 : fitS (trms qs)
  · rw [h1] at f1
    repeat' (first | refine aw_seq ?_ | refine zz ?_ | refine zon fun _ => ?_ | refine zoa fun vr lr hr => ?_ | ((first | apply ao_call | apply aq_call); exact wants_a; (first | exact oc_func rfl | exact oc_clos rfl rfl); (exact rfl); (first | exact fun w hw => f1 w hw.below | exact fun w hw => alive_ok w (hG.below hw.below))) | refine zoS (fun _ => ?_) (fun _ => ?_) | refine zqS (fun _ => ?_) (fun _ => ?_) | refine zwS (fun _ => ?_) (fun _ => ?_))
    all_goals exact fun w' hw => ⟨rfl, hw.below⟩
  rw [h1] at f1
  by_cases hl : l.length ≤ 600
  · obtain ⟨w2, -, -⟩ := fit_wf h1
    have hl2 : l.length ≤ 10000 := by omega
    have p1 := fun w' (hb : Below w.heap.size w w') => pparse_ok l hl2 w' (hG.below hb)
    have p2 := fun w' => rparse_ok l hl2 w'
    have t1 := fun w' (hb : Below w.heap.size w w') => ptext_ok _ qs w2 hcp w' (hG.below hb) (hvb.below hb)
    have p3 := fun w' (hb : Below w.heap.size w w') => pparse_ok (textS (trms qs)) (by have := text_len (ts := trms qs); omega) w' (hG.below hb)
    have g1 := fun w' (hb : Below w.heap.size w w') => pright_ok _ qs w2 w' (hvb.below hb)
    have hwp : ∀ ps, trms ps = (parseS l).1 → wfP ps := fun ps h => wf_parse h
    have hwp3 : ∀ ps, trms ps = (parseS (textS (trms qs))).1 → wfP ps := fun ps h => wf_parse h
    have hfa := parse_facts l
    generalize hpl : parseS l = out at p1 p2 hwp hfa
    obtain ⟨ts, e⟩ := out
    simp only at p1 p2 hwp hfa
    repeat' (first | refine aw_seq ?_ | refine zz ?_ | refine zon fun _ => ?_ | refine zoa fun vr lr hr => ?_ | ((first | apply ao_call | apply aq_call); exact wants_a; (first | exact oc_func rfl | exact oc_clos rfl rfl); (exact rfl); (first | exact fun w hw => f1 w hw.below)) | (apply ao_callD; exact wants_a; (exact oc_func rfl); (exact rfl); (first | exact fun w hw => p1 w hw.below); intro vr lr hr) | refine zoS (fun _ => ?_) (fun _ => ?_) | refine zqS (fun _ => ?_) (fun _ => ?_) | refine zwS (fun _ => ?_) (fun _ => ?_))
    revert vr lr hr
    rintro v1 k1 ⟨ps1, a1, b1, hts1, rfl, hrow1, hk1⟩
    have z1 := hwp ps1 hts1
    repeat' (first | refine aw_seq ?_ | refine zz ?_ | refine zon fun _ => ?_ | refine zoa fun vr lr hr => ?_ | (apply ao_callD; exact wants_a; (exact oc_func rfl); (exact rfl); (first | exact fun w hw => p2 w); intro vr lr hr) | refine zoS (fun _ => ?_) (fun _ => ?_) | refine zqS (fun _ => ?_) (fun _ => ?_) | refine zwS (fun _ => ?_) (fun _ => ?_))
    revert vr lr hr
    rintro v2 k2 ⟨ps2, a2, b2, hts2, rfl, hrow2, hk2⟩
    have z2 := hwp ps2 hts2
    have s1 := fun w' v u (h : ScpAt w' v ps1) (g : ScpAt w' u ps2) => rsame_ok v u ps1 ps2 z1 z2 w' h g
    rw [hts1, hts2, show (ts == ts) = true from beq_self_eq_true ts] at s1
    have c1 := fun w' v (hg : Glo w') (h : ScpAt w' v ps1) => ptext_ok v ps1 z1 (cap_parts hk1) w' hg h
    have c2 := fun w' v (h : ScpAt w' v ps1) => pright_ok v ps1 z1 w' h
    rw [hts1] at c1 c2
    have hE : e = 0 → rightS ts = true ∧ textS ts = l := fun he => by
      rcases hfa with ⟨ts', h, h2, h3⟩ | h
      · cases h; exact ⟨h2, h3⟩
      · cases h; cases he
    repeat' (first | refine aw_cutI_at (id := 9) (fun t H => t = [(0, S l), (1, .slice br qs.length dr)] ∧ H = []) ?_ ?_ | refine aw_cutI_at2 (id := 9) (fun t H => t = [(0, S l), (1, .slice br qs.length dr)] ∧ H = []) ?_ ?_ | refine aw_seq ?_ | refine zz ?_ | refine zon fun _ => ?_ | refine zoa fun vr lr hr => ?_ | ((first | apply ao_call | apply aq_call); exact wants_a; (first | exact oc_func rfl | exact oc_clos rfl rfl); (exact rfl); (first | exact fun w hw => s1 w _ _ (scp_at hw hrow1 hk1 cut_a) (scp_at hw hrow2 hk2 cut_a) | exact fun w hw => c1 w _ (hG.below hw.below) (scp_at hw hrow1 hk1 cut_a) | exact fun w hw => c2 w _ (scp_at hw hrow1 hk1 cut_a))) | refine zoS (fun _ => ?_) (fun _ => ?_) | refine zqS (fun _ => ?_) (fun _ => ?_) | refine zwS (fun _ => ?_) (fun _ => ?_))
    all_goals first
      | exact ci_normal ⟨rfl, rfl⟩ (by repeat (first | exact sub_nil | refine sub_cons rfl ?_)) hsub_a
      | (exfalso; have he := hE (by simpa using ‹(e == 0) = true›); simp_all; done)
      | skip
    rintro t H ⟨rfl, rfl⟩
    clear hE c1 c2 s1 p1 p2 hwp hfa
    cases hr : rightS (trms qs)
    · rw [hr] at g1
      rw [text_none hr] at t1 p3 hwp3
      rw [show parseS [] = ([], 2) by kernel_rfl] at p3 hwp3
      repeat' (first | refine aw_seq ?_ | refine zz ?_ | refine zon fun _ => ?_ | refine zoa fun vr lr hr => ?_ | ((first | apply ao_call | apply aq_call); exact wants_a; (first | exact oc_func rfl | exact oc_clos rfl rfl); (exact rfl); (first | exact fun w hw => t1 w hw.below)) | (apply ao_callD; exact wants_a; (exact oc_func rfl); (exact rfl); (first | exact fun w hw => p3 w hw.below); intro vr lr hr) | refine zoS (fun _ => ?_) (fun _ => ?_) | refine zqS (fun _ => ?_) (fun _ => ?_) | refine zwS (fun _ => ?_) (fun _ => ?_))
      revert vr lr hr
      rintro v3 k3 ⟨ps3, a3, b3, hts3, rfl, hrow3, hk3⟩
      have z3 := hwp3 ps3 hts3
      have s3 := fun w' v u (h : ScpAt w' v ps3) (g : ScpAt w' u qs) => rsame_ok v u ps3 qs z3 w2 w' h g
      repeat' (first | refine aw_seq ?_ | refine zz ?_ | refine zon fun _ => ?_ | refine zoa fun vr lr hr => ?_ | ((first | apply ao_call | apply aq_call); exact wants_a; (first | exact oc_func rfl | exact oc_clos rfl rfl); (exact rfl); (first | exact fun w hw => s3 w _ _ (scp_at hw hrow3 hk3 cut_a) (hvb.below hw.below) | exact fun w hw => alive_ok w (hG.below hw.below) | exact fun w hw => g1 w hw.below)) | refine zoS (fun _ => ?_) (fun _ => ?_) | refine zqS (fun _ => ?_) (fun _ => ?_) | refine zwS (fun _ => ?_) (fun _ => ?_))
      exact fun w' hw => ⟨rfl, hw.below⟩
    · obtain ⟨hp, hne⟩ := there_back hr
      rw [hr] at g1
      rw [hp] at p3 hwp3
      generalize textS (trms qs) = tx at t1 p3 hne
      have q1 : (tx != []) = true := bne_iff_ne.2 hne
      have q3 : ((tx != []) == true) = true := by rw [q1]; rfl
      have q2 : (tx == []) = false := beq_eq_false_iff_ne.2 hne
      repeat' (first | refine aw_seq ?_ | refine zz ?_ | refine zon fun _ => ?_ | refine zoa fun vr lr hr => ?_ | ((first | apply ao_call | apply aq_call); exact wants_a; (first | exact oc_func rfl | exact oc_clos rfl rfl); (exact rfl); (first | exact fun w hw => t1 w hw.below)) | (apply ao_callD; exact wants_a; (exact oc_func rfl); (exact rfl); (first | exact fun w hw => p3 w hw.below); intro vr lr hr) | refine zoS (fun _ => ?_) (fun _ => ?_) | refine zqS (fun _ => ?_) (fun _ => ?_) | refine zwS (fun _ => ?_) (fun _ => ?_))
      revert vr lr hr
      rintro v3 k3 ⟨ps3, a3, b3, hts3, rfl, hrow3, hk3⟩
      have z3 := hwp3 ps3 hts3
      have s3 := fun w' v u (h : ScpAt w' v ps3) (g : ScpAt w' u qs) => rsame_ok v u ps3 qs z3 w2 w' h g
      rw [hts3, show (trms qs == trms qs) = true from beq_self_eq_true _] at s3
      repeat' (first | refine aw_seq ?_ | refine zz ?_ | refine zon fun _ => ?_ | refine zoa fun vr lr hr => ?_ | ((first | apply ao_call | apply aq_call); exact wants_a; (first | exact oc_func rfl | exact oc_clos rfl rfl); (exact rfl); (first | exact fun w hw => s3 w _ _ (scp_at hw hrow3 hk3 cut_a) (hvb.below hw.below) | exact fun w hw => alive_ok w (hG.below hw.below) | exact fun w hw => g1 w hw.below)) | refine zoS (fun _ => ?_) (fun _ => ?_) | refine zqS (fun _ => ?_) (fun _ => ?_) | refine zwS (fun _ => ?_) (fun _ => ?_))
      exact fun w' hw => ⟨rfl, hw.below⟩
  · repeat' (first | refine aw_seq ?_ | refine zz ?_ | refine zon fun _ => ?_ | refine zoa fun vr lr hr => ?_ | ((first | apply ao_call | apply aq_call); exact wants_a; (first | exact oc_func rfl | exact oc_clos rfl rfl); (exact rfl); (first | exact fun w hw => f1 w hw.below | exact fun w hw => alive_ok w (hG.below hw.below))) | refine zoS (fun _ => ?_) (fun _ => ?_) | refine zqS (fun _ => ?_) (fun _ => ?_) | refine zwS (fun _ => ?_) (fun _ => ?_))
    all_goals exact fun w' hw => ⟨rfl, hw.below⟩
end Scp
end Go.Proofs.YtlokhemlpmalaaaDoor
