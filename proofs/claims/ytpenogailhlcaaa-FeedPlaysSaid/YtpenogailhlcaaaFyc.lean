/- The landed feed: the iterator over those of a key ahead; early, Safe, Open, has; conditions: at most 1,000 events. -/
import Derived.Test.YtpenogailhlcaaaFyb
namespace Go.Proofs.Ytpenogailhlcaaa
namespace Fdt
open Go Go.RowKit Sx
attribute [local irreducible] Go.Calls

set_option maxHeartbeats 16000000 in
/-- The iterator over those of the i-th one's key ahead of it, falling, down to the first that is settled. -/
theorem ahead_it {m : Nat} {w0 : World} {l b d c g i : Nat} {r : Loop} {f : Fd} {v : Value} {k : Kt} {s0 : Int} (hl : f.es.length ≤ 1000) (hr : r.params.size = 1) (J : Int → Hp → Prop) (Jx : Hp → Prop)
    (hb : ∀ j H, J j H → Has H l (Lp r .ready none) ∧ Has H b (boxP (some ⟨g, 0, none⟩)) ∧ Has H d (.cells #[I i] 3 (0, 0)) ∧ Has H c (boxS (some ⟨g, 0, none⟩)))
    (hF : ∀ j H, J j H → ∀ w, RepH ⟨w0.heap.size, w0, 0⟩ H w → FAt w g f v)
    (hv : ∃ a cp, v = .slice a f.es.length cp ∧ (0 < f.es.length → ∃ g1 o1, a = some ⟨g1, o1, none⟩))
    (hi : f.es[i]? = some (k, s0))
    (hR : ∀ (j : Nat) s H, j < i → f.es[j]? = some (k, s) → stB f j = false → J j H → RoundH Try.prog ⟨w0.heap.size, w0, 0⟩ l r [I j] H fun u H' => (u = .bool true ∧ J (prevK (keysF f) k j) H') ∨ (u = .bool false ∧ Jx H'))
    (H : Hp) (h0 : J (prevK (keysF f) k i) H) :
    CallsH Try.prog ⟨w0.heap.size, w0, m⟩ 34 [.func (.yield l) #[] #[], .pointer (some ⟨b, 0, none⟩), .pointer (some ⟨d, 0, none⟩), .pointer (some ⟨c, 0, none⟩)] H
      fun u H' => u = .tuple #[] ∧ ((∃ j : Int, (j = -1 ∨ ∃ n : Nat, j = n ∧ n < i ∧ (keysF f)[n]? = some k ∧ stB f n = true) ∧ J j H') ∨ Jx H') := by
  obtain ⟨a, cp, rfl, hva⟩ := hv
  have hil := (List.getElem?_eq_some_iff.1 hi).1
  obtain ⟨g1, o1, rfl⟩ := hva (by omega)
  have nxt : ∀ n : Nat, prevK (keysF f) k n = -1 ∨ ∃ j : Nat, prevK (keysF f) k n = j ∧ j < n ∧ (keysF f)[j]? = some k := fun n => by
    rcases prev_spec (keysF f) k n with ⟨h, -⟩ | ⟨j, h1, h2, h3, -⟩
    · exact .inl h
    · exact .inr ⟨j, h2, h1, h3⟩
  have cel : ∀ j H, J j H → ∀ (n : Nat) (s : Int), f.es[n]? = some (k, s) → ∀ w, RepH ⟨w0.heap.size, w0, Try.f34.ntmps⟩ H w → w.cell? ⟨g, 0, none⟩ = some (.slice (some ⟨g1, o1, none⟩) f.es.length cp) ∧ w.cell? ⟨g1, o1 + (n : Int).toNat * 2, none⟩ = some (I (prevK (keysF f) k n)) := fun j H hJ n s hs w hw => by
    have hA := hF j H hJ w hw.n0
    obtain ⟨a2, cp2, e, hat⟩ := hA.cells
    cases e
    obtain ⟨g2, o2, e2, -, hc, -⟩ := hat n k s n hs rfl
    cases e2
    exact ⟨hA.c0, hc⟩
  obtain ⟨-, hB, hD, -⟩ := hb _ H h0
  have c0 := fun w hw => (cel _ H h0 i s0 hi w hw).1
  have cI := fun w hw => (cel _ H h0 i s0 hi w hw).2
  refine callsH0 Try.func34 rfl rfl rfl rfl ?_
  repeat' (first | (apply ao_nilh; exact hsub_a) | apply ao_nil | apply aq_nil | apply ah_end | ((first | apply ao_val | apply aq_val | (apply ah_take; (exact rfl))); exact wants_a; (first | exact ov_nilcheck rfl | exact ov_load rfl hB rfl | exact ov_load rfl hD rfl | exact ov_load_w1 rfl c0 | exact ov_load_w1 rfl cI | exact ov_a); (exact rfl)) | ((first | apply ao_skip | apply aq_skip | (apply ah_skip; (exact rfl))); exact nots_a; (exact rfl)) | (refine ao_is ?_; first | (apply ao_new; exact wants_a; exact on_a; (exact rfl); intro _) | (apply ao_store; exact wants_a; exact ow_a; exact upd_a) | (apply ao_valw; exact wants_a; exact ox_a; (exact rfl); exact upd_a) | (apply ao_skip0; exact nots_a) | (apply ao_append; exact wants_a; (exact rfl); assumption; (exact rfl); exact cut_a; exact has_a; (exact rfl); (exact rfl); omega; omega; omega; (exact rfl); intro vr lr hr)) | (apply ah_one; (exact rfl)) | (apply ah_two; (exact rfl); (exact rfl)) | (apply ah_three; (exact rfl); (exact rfl); (exact rfl)) | (refine aw_is ?_; first | (apply aw_held (id := 0) (pl := (.t 0 (.t 1 (.t 2 (.t 3 (.t 4 (.t 5 (.t 6 (.t 7 (.t 8 .e)))))))))); (kernel_rfl); (kernel_rfl); (kernel_rfl); (solve | (exact List.Sublist.refl _))) | refine aw_seq ?_ | refine aw_block ?_ | refine aw_region ?_ | refine aw_skip ?_ | refine aw_exit ?_ | refine aw_ret ?_ | refine aw_label ?_ | refine aw_scope ?_ | refine aw_cond_t rfl (by with_reducible rfl) ?_ | refine aw_cond_f rfl (by with_reducible rfl) ?_ | refine aw_draw (by kernel_rfl) (by kernel_rfl) ?_) | (first | (refine ah_is ?_; (fail_if_success first | refine ah_glit (b := true) rfl rfl rfl (by with_reducible rfl) ?_ | refine ah_glit (b := false) rfl rfl rfl (by with_reducible rfl) ?_); apply ah_gt; (exact rfl); (exact rfl); (exact rfl); exact t_a) | ((refine ao_is ?_; (fail_if_success first | refine ao_glit (b := true) rfl rfl (by with_reducible rfl) ?_ | refine ao_glit (b := false) rfl rfl (by with_reducible rfl) ?_)); apply ao_gt; (exact rfl); (exact rfl); exact t_a) | ((refine aq_is ?_; (fail_if_success first | refine aq_glit (b := true) rfl rfl (by with_reducible rfl) ?_ | refine aq_glit (b := false) rfl rfl (by with_reducible rfl) ?_)); apply aq_gt; (exact rfl); (exact rfl); exact t_a) | (apply aw_ct; (exact rfl); exact t_a)) | (first | (refine ah_is ?_; (fail_if_success first | refine ah_glit (b := true) rfl rfl rfl (by with_reducible rfl) ?_ | refine ah_glit (b := false) rfl rfl rfl (by with_reducible rfl) ?_); apply ah_gf; (exact rfl); (exact rfl); (exact rfl); exact f_a) | ((refine ao_is ?_; (fail_if_success first | refine ao_glit (b := true) rfl rfl (by with_reducible rfl) ?_ | refine ao_glit (b := false) rfl rfl (by with_reducible rfl) ?_)); apply ao_gf; (exact rfl); (exact rfl); exact f_a) | ((refine aq_is ?_; (fail_if_success first | refine aq_glit (b := true) rfl rfl (by with_reducible rfl) ?_ | refine aq_glit (b := false) rfl rfl (by with_reducible rfl) ?_)); apply aq_gf; (exact rfl); (exact rfl); exact f_a) | (apply aw_cf; (exact rfl); exact f_a)) | refine at_normal ?_ | refine at_exit ?_ | refine at_ret ?_ | refine ib_normal ?_ | refine ib_exit ?_ | refine ib_other ?_ | refine ib_ret ?_ | refine lq_exit ?_ | refine lq_ret ?_ | refine ci_ret ?_ | refine ci_exit ?_ | refine r1_ret rfl ?_ | refine r1_normal rfl ?_ | refine r2_ret rfl rfl ?_ | refine r2_normal rfl rfl ?_ | refine r3_ret rfl rfl rfl ?_ | refine r3_normal rfl rfl rfl ?_ | refine ng_normal ?_ | refine ng_exit ?_ | refine ng_ret ?_ | (apply rt_ret; (exact rfl); (exact rfl); (exact rfl); exact has_a; exact has_a; (exact rfl); (exact rfl)) | (apply rc1_ret; (exact rfl); exact has_a; (exact rfl)) | (apply rc2_ret; (exact rfl); exact has_a; (exact rfl); (exact rfl)) | (refine ao_is ?_; (fail_if_success first | refine ao_glit (b := true) rfl rfl (by with_reducible rfl) ?_ | refine ao_glit (b := false) rfl rfl (by with_reducible rfl) ?_); refine ao_gbool rfl rfl (fun _ => ?_) (fun _ => ?_)) | (refine aq_is ?_; (fail_if_success first | refine aq_glit (b := true) rfl rfl (by with_reducible rfl) ?_ | refine aq_glit (b := false) rfl rfl (by with_reducible rfl) ?_); refine aq_gbool rfl rfl (fun _ => ?_) (fun _ => ?_)) | (refine aw_is ?_; refine aw_cond rfl (fun _ => ?_) (fun _ => ?_)))
  refine aw_for (t0 := [(0, .func (.yield l) #[] #[]), (1, .pointer (some ⟨b, 0, none⟩)), (3, .pointer (some ⟨c, 0, none⟩)), (5, I (prevK (keysF f) k i))]) (fun q t H => ∃ j : Int, q = (j + 1).toNat ∧ (j = -1 ∨ ∃ n : Nat, j = n ∧ n < i ∧ (keysF f)[n]? = some k) ∧ J j H ∧ t = [(0, .func (.yield l) #[] #[]), (1, .pointer (some ⟨b, 0, none⟩)), (3, .pointer (some ⟨c, 0, none⟩)), (5, I j)])
    ⟨_, rfl, nxt i, h0, rfl⟩ (by repeat (first | exact sub_nil | refine sub_cons rfl ?_)) ?_
  clear c0 cI hB hD
  rintro _ t H ⟨j, rfl, rfl | ⟨n, rfl, hn, hkn⟩, hJ, rfl⟩
  · repeat' (first | refine aw_seq ?_ | refine zz ?_ | refine zon fun _ => ?_ | refine zoa fun vr lr hr => ?_ | refine zoS (fun _ => ?_) (fun _ => ?_) | refine zqS (fun _ => ?_) (fun _ => ?_) | refine zwS (fun _ => ?_) (fun _ => ?_))
    exact r0_normal ⟨H, List.Sublist.refl _, .inl ⟨-1, .inl rfl, hJ⟩⟩
  · obtain ⟨hlh, hB, -, hC⟩ := hb _ H hJ
    obtain ⟨s, hs⟩ := keysF_some hkn
    have c0 := fun w hw => (cel _ H hJ n s hs w hw).1
    have cI := fun w hw => (cel _ H hJ n s hs w hw).2
    have hnl : n < f.es.length := by omega
    have hst := fun w' (h : FAt w' g f (.slice (some ⟨g1, o1, none⟩) f.es.length cp)) => st_ok h hl n hnl
    have hFn := fun w hw => hF _ H hJ w hw
    have hne : ((n : Int) != -1) = true := bne_iff_ne.2 (by omega)
    cases hsb : stB f n
    · rw [hsb] at hst
      have hrd := hR n s H hn hs hsb hJ
      repeat' (first | refine aw_seq ?_ | ((first | apply ao_val | apply aq_val); exact wants_a; (first | exact ov_load rfl hC rfl | exact ov_a); (exact rfl)) | refine zy ?_ | refine zon fun _ => ?_ | refine zoa fun vr lr hr => ?_ | ((first | apply ao_call | apply aq_call); exact wants_a; (first | exact oc_func rfl | exact oc_clos rfl rfl | exact oc_bnd rfl rfl); (exact rfl); (first | exact fun w hw => hst w (hFn w hw.n0))) | ((apply ao_yield (H' := H); exact wants_a; exact rfl; exact rfl; exact rfl; exact (List.Perm.of_eq (List.append_nil H).symm); exact hlh; exact hr.symm; exact hrd; intro u H1 hk)) | refine zoS (fun _ => ?_) (fun _ => ?_) | refine zqS (fun _ => ?_) (fun _ => ?_) | refine zwS (fun _ => ?_) (fun _ => ?_))
      rcases hk with ⟨rfl, hJ2⟩ | ⟨rfl, hx⟩
      · obtain ⟨-, hB1, -, -⟩ := hb _ H1 hJ2
        have hB2 : Has (H1 ++ []) b (boxP (some ⟨g, 0, none⟩)) := by rw [List.append_nil]; exact hB1
        have d0 := fun w (hw : RepH _ (H1 ++ []) w) => (cel _ H1 hJ2 n s hs w (by rw [List.append_nil] at hw; exact hw)).1
        have dI := fun w (hw : RepH _ (H1 ++ []) w) => (cel _ H1 hJ2 n s hs w (by rw [List.append_nil] at hw; exact hw)).2
        clear c0 cI hB
        have hnx : prevK (keysF f) k n = -1 ∨ ∃ j : Nat, prevK (keysF f) k n = j ∧ j < i ∧ (keysF f)[j]? = some k := by
          rcases nxt n with h | ⟨j, h1, h2, h3⟩
          · exact .inl h
          · exact .inr ⟨j, h1, by omega, h3⟩
        have hless : (prevK (keysF f) k n + 1).toNat < ((n : Int) + 1).toNat := by
          rcases nxt n with h | ⟨j, h1, h2, -⟩ <;> omega
        repeat' (first | refine aw_seq ?_ | ((first | apply ao_val | apply aq_val); exact wants_a; (first | exact ov_nilcheck rfl | exact ov_load rfl hB2 rfl | exact ov_load_w1 rfl d0 | exact ov_load_w1 rfl dI | exact ov_a); (exact rfl)) | refine zy ?_ | refine zon fun _ => ?_ | refine zoa fun vr lr hr => ?_ | refine zoS (fun _ => ?_) (fun _ => ?_) | refine zqS (fun _ => ?_) (fun _ => ?_) | refine zwS (fun _ => ?_) (fun _ => ?_))
        exact lq_normal' (H' := H1) ⟨prevK (keysF f) k n, rfl, hnx, hJ2, rfl⟩ hless (by repeat (first | exact sub_nil | refine sub_cons rfl ?_)) (List.sublist_append_left _ _)
      · repeat' (first | refine aw_seq ?_ | refine zz ?_ | refine zon fun _ => ?_ | refine zoa fun vr lr hr => ?_ | refine zoS (fun _ => ?_) (fun _ => ?_) | refine zqS (fun _ => ?_) (fun _ => ?_) | refine zwS (fun _ => ?_) (fun _ => ?_))
        exact r0_ret ⟨H1, List.sublist_append_left _ _, .inr hx⟩
    · rw [hsb] at hst
      repeat' (first | refine aw_seq ?_ | ((first | apply ao_val | apply aq_val); exact wants_a; (first | exact ov_load rfl hC rfl | exact ov_a); (exact rfl)) | refine zy ?_ | refine zon fun _ => ?_ | refine zoa fun vr lr hr => ?_ | ((first | apply ao_call | apply aq_call); exact wants_a; (first | exact oc_func rfl | exact oc_clos rfl rfl | exact oc_bnd rfl rfl); (exact rfl); (first | exact fun w hw => hst w (hFn w hw.n0))) | refine zoS (fun _ => ?_) (fun _ => ?_) | refine zqS (fun _ => ?_) (fun _ => ?_) | refine zwS (fun _ => ?_) (fun _ => ?_))
      exact r0_normal ⟨H, List.Sublist.refl _, .inl ⟨n, .inr ⟨n, rfl, hn, hkn, hsb⟩, hJ⟩⟩
end Fdt
end Go.Proofs.Ytpenogailhlcaaa
