/- The landed feed: Safe, Open, early: ranges over functions; conditions: at most 1,000 events. -/
import Derived.Test.YtpenogailhlcaaaFyc
namespace Go.Proofs.Ytpenogailhlcaaa
namespace Fdt
open Go Go.RowKit Sx
attribute [local irreducible] Go.Calls

/-- A result of one cell that lies in memory. -/
def retCS (r : Nat) (R : Value → Hp → Prop) : Exit → Tm → Hp → Prop
  | .ret, t, H | .normal, t, H => ∃ b v e fz, Sx.look t r = some (.pointer (some ⟨b, 0, none⟩)) ∧ Has H b (.cells #[v] e fz) ∧ R v H
  | _, _, _ => False
theorem rcs_ret {r b : Nat} {R : Value → Hp → Prop} {t : Tm} {H : Hp} {v : Value} {e : TypeId} {fz : Nat × Nat} (h1 : Sx.look t r = some (.pointer (some ⟨b, 0, none⟩))) (h2 : Has H b (.cells #[v] e fz)) (hr : R v H) : retCS r R .ret t H := ⟨b, v, e, fz, h1, h2, hr⟩
theorem results_cs {P : Program} {E : Env} {H : Hp} {t : Tm} {fn : Func} {w : World} {a : Act} {r rt b : Nat} {v : Value} {e : TypeId} {fz : Nat × Nat} [TyC P rt] (hr : fn.results = #[.cell r rt]) (ht : RepT E t a) (hh : RepH E H w)
    (h1 : Sx.look t r = some (.pointer (some ⟨b, 0, none⟩))) (h2 : Has H b (.cells #[v] e fz)) : (results fn a.tmps).run P w = .ok v w := by
  have h0 := ht.2.2 r _ h1
  rw [Array.getD_eq_getD_getElem?] at h0
  have hb := (hh.has h2).2
  have hb' : w.heap[b]? = some (.cells [v].toArray e fz) := by simpa using hb
  have := run_load_cell (P := P) (w := w) (lt := rt) (b := b) (off := 0) (v := v) (by rw [cell_of hb']; rfl)
  have h3 : (loadVar rt ⟨b, 0, none⟩).run P w = .ok v w := by simpa only [Instr.loadAt, Instr.sureAddr, Sem.run_bind, pure, Sem.run, Result.andThen] using this
  simp only [results, hr]
  simp [h0, h3, asAddr]
theorem callsCS {P : Program} {f : FuncId} {fn : Func} {c : Code} {args : List Value} {w : World} {R : Ending → World → Prop} {n r rt : Nat} [TyC P rt]
    (hf : P.funcs[f]? = some fn) (hb : fn.body = some c) (hn : fn.ntmps = n) (hl : Nat.ble args.length n = true) (hr : fn.results = #[.cell r rt])
    (h : aw P ⟨w.heap.size, w, n⟩ c (retCS r fun v H => ∀ w', RepH ⟨w.heap.size, w, n⟩ H w' → R (.returned v) w') (tm0 args) []) : Calls P f args.toArray w R := by
  refine calls_of_aw0 hf hb hn hl h fun e a t' H' r1 q => ?_
  cases e with
  | normal => obtain ⟨b, v, e, fz, h1, h2, h4⟩ := q; exact ⟨.inl rfl, _, fun w' r2 => ⟨results_cs hr r1 r2 h1 h2, h4 _ r2⟩⟩
  | ret => obtain ⟨b, v, e, fz, h1, h2, h4⟩ := q; exact ⟨.inr rfl, _, fun w' r2 => ⟨results_cs hr r1 r2 h1 h2, h4 _ r2⟩⟩
  | exit _ => exact q.elim
  | goto _ => exact q.elim
  | panic _ => exact q.elim
  | outgrown => exact q.elim
theorem callsHS {P : Program} {B m : Nat} {w0 : World} {f : FuncId} {fn : Func} {c : Code} {args : List Value} {n r rt : Nat} {H : Hp} {K : Value → Hp → Prop} [TyC P rt]
    (hf : P.funcs[f]? = some fn) (hb : fn.body = some c) (hn : fn.ntmps = n) (hl : Nat.ble args.length n = true) (hr : fn.results = #[.cell r rt])
    (h : aw P ⟨B, w0, n⟩ c (retCS r fun v H' => ∃ H2 H1 : Hp, H2.Sublist H' ∧ H2.Perm H1 ∧ K v H1) (tm0 args) H) : CallsH P ⟨B, w0, m⟩ f args H K := by
  refine callsH_of_aw hf hb hn hl h fun e a t' H' r1 q => ?_
  cases e with
  | normal =>
    obtain ⟨b, v, e, fz, h1, h2, H2, H1, hs, hp, hk⟩ := q
    exact ⟨.inl rfl, _, H1, H2, fun w' r2 => results_cs hr r1 r2 h1 h2, hs, hp, hk⟩
  | ret =>
    obtain ⟨b, v, e, fz, h1, h2, H2, H1, hs, hp, hk⟩ := q
    exact ⟨.inr rfl, _, H1, H2, fun w' r2 => results_cs hr r1 r2 h1 h2, hs, hp, hk⟩
  | exit _ => exact q.elim
  | goto _ => exact q.elim
  | panic _ => exact q.elim
  | outgrown => exact q.elim
theorem FAt.row {w : World} {g : Nat} {f : Fd} {v : Value} (h : FAt w g f v) : ∃ a cp, v = .slice a f.es.length cp ∧ (0 < f.es.length → ∃ g1 o1, a = some ⟨g1, o1, none⟩) := by
  obtain ⟨a, cp, rfl, hat⟩ := h.cells
  refine ⟨a, cp, rfl, fun hn => ?_⟩
  obtain ⟨⟨k, s⟩, he⟩ := getP hn
  obtain ⟨g1, o1, e, -⟩ := hat 0 k s 0 he rfl
  exact ⟨g1, o1, e⟩
theorem has_perm {H M : Hp} {b : Nat} {o : Obj} (h : H.Perm M) (hm : Has M b o) : Has H b o := by
  unfold Has at hm ⊢
  exact h.mem_iff.2 hm
set_option maxHeartbeats 16000000 in
theorem safe_ok {w : World} {g : Nat} {f : Fd} {v : Value} (h : FAt w g f v) (hl : f.es.length ≤ 1000) :
    Calls Try.prog 15 #[.pointer (some ⟨g, 0, none⟩)] w fun e w' => e = .returned (I (safeF f)) ∧ Below w.heap.size w w' := by
  have hF := fun w' (hb : Below w.heap.size w w') => h.below hb
  refine calls1 (args := [.pointer (some ⟨g, 0, none⟩)]) Try.func15 rfl rfl rfl rfl ?_
  repeat' (first | refine aw_seq ?_ | ((first | apply ao_val | apply aq_val); exact wants_a; (first | exact ov_nilcheck rfl | exact ov_peqs rfl rfl | exact ov_a); (exact rfl)) | refine zy ?_ | refine zon fun _ => ?_ | refine zoa fun vr lr hr => ?_ | ((apply ao_callD; exact wants_a; (exact oc_func rfl); (exact rfl); (intro w hw; exact each_ok (some ⟨g, 0, none⟩) w); rintro _ _ ⟨bx, cx, rfl, rfl⟩)) | refine zoS (fun _ => ?_) (fun _ => ?_) | refine zqS (fun _ => ?_) (fun _ => ?_) | refine zwS (fun _ => ?_) (fun _ => ?_))
  rename_i b3
  refine aw_range (gf := 32) (bs := []) (lb := [.pointer (some ⟨bx, 0, none⟩), .pointer (some ⟨cx, 0, none⟩)]) rfl fun l r e1 e2 e3 hts => ?_
  refine CallsH.mono (each_it (q := some ⟨g, 0, none⟩) (s := stB f) (n := f.es.length) hl (by rw [e1]; rfl) (fun i H => (i ≤ f.es.length ∧ safeL f (f.es.length - i) i = safeF f) ∧ H.Perm ((l, Lp r .ready none) :: (cx, boxS (some ⟨g, 0, none⟩)) :: (bx, boxP (some ⟨g, 0, none⟩)) :: (b3, .cells #[I i] 2 (0, 0)) :: []))
    (fun i H => i = safeF f ∧ H.Perm ((l, Lp r .done (some (.exit 0))) :: (cx, boxS (some ⟨g, 0, none⟩)) :: (bx, boxP (some ⟨g, 0, none⟩)) :: (b3, .cells #[I i] 2 (0, 0)) :: [])) ?_ (fun H _ w' hw => len_ok (hF w' hw.below)) (fun i H hi _ w' hw => st_ok (hF w' hw.below) hl i hi) ?_ _ ?_) ?_
  · rintro i H ⟨-, hp⟩
    exact ⟨has_perm hp has_a, has_perm hp has_a, has_perm hp has_a⟩
  · rintro i H hi ⟨⟨-, hs⟩, hp⟩
    refine RoundH.perm hp ?_
    refine roundH_of (E := ⟨w.heap.size, w, Try.f15.ntmps⟩) (ps := [10, 11]) e1 rfl (by rw [e2]; rfl) (by rw [e3]; rfl) hts ?_
    rw [e2, e3]
    simp only [putTm]
    repeat' (first | refine aw_seq ?_ | ((first | apply ao_val | apply aq_val); exact wants_a; (first | exact ov_nilcheck rfl | exact ov_a); (exact rfl)) | refine zy ?_ | refine zon fun _ => ?_ | refine zoa fun vr lr hr => ?_ | refine zoS (fun _ => ?_) (fun _ => ?_) | refine zqS (fun _ => ?_) (fun _ => ?_) | refine zwS (fun _ => ?_) (fun _ => ?_))
    refine asg_done has_a upd_a ?_
    cases hsb : stB f i
    · rw [safe_f hi hsb] at hs
      repeat' (first | refine aw_seq ?_ | ((first | apply ao_val | apply aq_val); exact wants_a; (first | exact ov_nilcheck rfl | exact ov_a); (exact rfl)) | refine zy ?_ | refine zon fun _ => ?_ | refine zoa fun vr lr hr => ?_ | refine zoS (fun _ => ?_) (fun _ => ?_) | refine zqS (fun _ => ?_) (fun _ => ?_) | refine zwS (fun _ => ?_) (fun _ => ?_))
      exact rq_exit has_a upd_a hsub_a (Or.inr ⟨rfl, hs, List.Perm.refl _⟩)
    · rw [safe_t hi hsb] at hs
      repeat' (first | refine aw_seq ?_ | ((first | apply ao_val | apply aq_val); exact wants_a; (first | exact ov_nilcheck rfl | exact ov_a); (exact rfl)) | refine zy ?_ | refine zon fun _ => ?_ | refine zoa fun vr lr hr => ?_ | refine zoS (fun _ => ?_) (fun _ => ?_) | refine zqS (fun _ => ?_) (fun _ => ?_) | refine zwS (fun _ => ?_) (fun _ => ?_))
      exact rq_normal has_a upd_a hsub_a (Or.inl ⟨rfl, ⟨by omega, hs⟩, List.Perm.refl _⟩)
  · exact ⟨⟨Nat.zero_le _, rfl⟩, List.Perm.refl _⟩
  · rintro v H' ⟨-, ⟨⟨-, hs⟩, hp⟩ | ⟨i, hs, hp⟩⟩
    · refine ⟨.ready, none, _, by simp, hp, ?_⟩
      rw [safe_0] at hs
      unfold jumpQ
      repeat' (first | refine aw_seq ?_ | ((first | apply ao_val | apply aq_val); exact wants_a; (first | exact ov_nilcheck rfl | exact ov_a); (exact rfl)) | refine zy ?_ | refine zon fun _ => ?_ | refine zoa fun vr lr hr => ?_ | refine zoS (fun _ => ?_) (fun _ => ?_) | refine zqS (fun _ => ?_) (fun _ => ?_) | refine zwS (fun _ => ?_) (fun _ => ?_))
      exact fun w' hw => ⟨by rw [hs], hw.below⟩
    · refine ⟨.done, some (.exit 0), _, by simp, hp, ?_⟩
      unfold jumpQ
      repeat' (first | refine aw_seq ?_ | refine zz ?_ | refine zon fun _ => ?_ | refine zoa fun vr lr hr => ?_ | refine zoS (fun _ => ?_) (fun _ => ?_) | refine zqS (fun _ => ?_) (fun _ => ?_) | refine zwS (fun _ => ?_) (fun _ => ?_))
      exact fun w' hw => ⟨by rw [hs], hw.below⟩
set_option maxHeartbeats 16000000 in
theorem safe0_ok (w : World) : Calls Try.prog 15 #[.pointer none] w fun e w' => e = .returned (I 0) ∧ Below w.heap.size w w' := by
  refine calls1 (args := [.pointer none]) Try.func15 rfl rfl rfl rfl ?_
  repeat' (first | refine aw_seq ?_ | ((first | apply ao_val | apply aq_val); exact wants_a; (first | exact ov_nilcheck rfl | exact ov_peq0 rfl rfl | exact ov_a); (exact rfl)) | refine zy ?_ | refine zon fun _ => ?_ | refine zoa fun vr lr hr => ?_ | ((apply ao_callD; exact wants_a; (exact oc_func rfl); (exact rfl); (intro w hw; exact each_ok none w); rintro _ _ ⟨bx, cx, rfl, rfl⟩)) | refine zoS (fun _ => ?_) (fun _ => ?_) | refine zqS (fun _ => ?_) (fun _ => ?_) | refine zwS (fun _ => ?_) (fun _ => ?_))
  rename_i b3
  refine aw_range (gf := 32) (bs := []) (lb := [.pointer (some ⟨bx, 0, none⟩), .pointer (some ⟨cx, 0, none⟩)]) rfl fun l r e1 e2 e3 hts => ?_
  refine CallsH.mono (each_it (q := none) (s := fun _ => false) (n := 0) (by omega) (by rw [e1]; rfl) (fun i H => H.Perm ((l, Lp r .ready none) :: (cx, boxS none) :: (bx, boxP none) :: (b3, .cells #[I 0] 2 (0, 0)) :: []))
    (fun _ _ => False) ?_ (fun H _ w' hw => len0_ok w') (fun i H hi _ w' hw => absurd hi (Nat.not_lt_zero i)) (fun i H hi _ => absurd hi (Nat.not_lt_zero i)) _ ?_) ?_
  · rintro i H hp
    exact ⟨has_perm hp has_a, has_perm hp has_a, has_perm hp has_a⟩
  · exact List.Perm.refl _
  · rintro v H' ⟨-, hp | ⟨i, hf⟩⟩
    · refine ⟨.ready, none, _, by simp, hp, ?_⟩
      unfold jumpQ
      repeat' (first | refine aw_seq ?_ | ((first | apply ao_val | apply aq_val); exact wants_a; (first | exact ov_nilcheck rfl | exact ov_a); (exact rfl)) | refine zy ?_ | refine zon fun _ => ?_ | refine zoa fun vr lr hr => ?_ | refine zoS (fun _ => ?_) (fun _ => ?_) | refine zqS (fun _ => ?_) (fun _ => ?_) | refine zwS (fun _ => ?_) (fun _ => ?_))
      exact fun w' hw => ⟨rfl, hw.below⟩
    · exact hf.elim
set_option maxHeartbeats 16000000 in
theorem open_ok {w : World} {g : Nat} {f : Fd} {v : Value} (h : FAt w g f v) (hl : f.es.length ≤ 1000) :
    Calls Try.prog 12 #[.pointer (some ⟨g, 0, none⟩)] w fun e w' => ∃ r, e = .returned r ∧ NewRow 3 1 w w' r (openF f).length (nats (openF f)) := by
  have hF := fun w' (hb : Below w.heap.size w w') => h.below hb
  have lt := h.lt
  have c0 := h.c0
  obtain ⟨aV, cV, rfl, hat⟩ := h.cells
  refine calls1 (args := [.pointer (some ⟨g, 0, none⟩)]) Try.func12 rfl rfl rfl rfl ?_
  repeat' (first | refine aw_seq ?_ | ((first | apply ao_val | apply aq_val); exact wants_a; (first | exact ov_nilcheck rfl | exact ov_peqs rfl rfl | exact ov_a); (exact rfl)) | refine zy ?_ | refine zon fun _ => ?_ | refine zoa fun vr lr hr => ?_ | ((apply ao_callD; exact wants_a; (exact oc_func rfl); (exact rfl); (intro w hw; exact each_ok (some ⟨g, 0, none⟩) w); rintro _ _ ⟨bx, cx, rfl, rfl⟩)) | refine zoS (fun _ => ?_) (fun _ => ?_) | refine zqS (fun _ => ?_) (fun _ => ?_) | refine zwS (fun _ => ?_) (fun _ => ?_))
  rename_i b1 b3
  refine aw_range (gf := 32) (bs := []) (lb := [.pointer (some ⟨bx, 0, none⟩), .pointer (some ⟨cx, 0, none⟩)]) rfl fun l r e1 e2 e3 hts => ?_
  refine CallsH.mono (each_it (q := some ⟨g, 0, none⟩) (s := stB f) (n := f.es.length) hl (by rw [e1]; rfl) (fun i H => ∃ v5 l5, RowB 3 1 v5 l5 (openL f i).length (nats (openL f i)) ∧ H.Perm ((l, Lp r .ready none) :: (cx, boxS (some ⟨g, 0, none⟩)) :: (bx, boxP (some ⟨g, 0, none⟩)) :: (b3, .cells #[v5] 29 (0, 0)) :: (b1, boxP (some ⟨g, 0, none⟩)) :: (l5 ++ [])))
    (fun _ _ => False) ?_ (fun H _ w' hw => len_ok (hF w' hw.below)) (fun i H hi _ w' hw => st_ok (hF w' hw.below) hl i hi) ?_ _ ?_) ?_
  · rintro i H ⟨v5, l5, -, hp⟩
    exact ⟨has_perm hp has_a, has_perm hp has_a, has_perm hp has_a⟩
  · rintro i H hi ⟨v5, l5, r5, hp⟩
    refine RoundH.perm hp ?_
    obtain ⟨av, cv, hv5⟩ := r5.len
    subst hv5
    refine roundH_of (E := ⟨w.heap.size, w, Try.f12.ntmps⟩) (ps := [10, 11]) e1 rfl (by rw [e2]; rfl) (by rw [e3]; rfl) hts ?_
    rw [e2, e3]
    simp only [putTm]
    repeat' (first | refine aw_seq ?_ | ((first | apply ao_val | apply aq_val); exact wants_a; (first | exact ov_nilcheck rfl | exact ov_a); (exact rfl)) | refine zy ?_ | refine zon fun _ => ?_ | refine zoa fun vr lr hr => ?_ | refine zoS (fun _ => ?_) (fun _ => ?_) | refine zqS (fun _ => ?_) (fun _ => ?_) | refine zwS (fun _ => ?_) (fun _ => ?_))
    refine asg_done has_a upd_a ?_
    have hnx := open_s f i
    have hln := open_len f i
    obtain ⟨⟨k, is⟩, he⟩ := getP hi
    obtain ⟨g1, o1, rfl, hg, -, c3⟩ := hat i k is (i : Int) he rfl
    have hob := opB_at he
    generalize stB f i = sB at hob
    cases sB
    · by_cases h0 : is = 0
      · subst h0
        rw [decide_eq_true rfl, Bool.true_and, show (!false) = true from rfl] at hob
        rw [hob, if_pos rfl] at hnx
        repeat' (first | refine aw_seq ?_ | ((first | apply ao_val | apply aq_val); exact wants_a; (first | exact ov_nilcheck rfl | exact ov_a); (exact rfl)) | refine zy ?_ | refine zon fun _ => ?_ | refine zoa fun vr lr hr => ?_ | refine zoS (fun _ => ?_) (fun _ => ?_) | refine zqS (fun _ => ?_) (fun _ => ?_) | refine zwS (fun _ => ?_) (fun _ => ?_))
        obtain ⟨xv, yv, hxv⟩ := hr.len
        subst hxv
        repeat' (first | refine aw_seq ?_ | refine zz ?_ | refine zon fun _ => ?_ | refine zoa fun vr lr hr => ?_ | refine zoS (fun _ => ?_) (fun _ => ?_) | refine zqS (fun _ => ?_) (fun _ => ?_) | refine zwS (fun _ => ?_) (fun _ => ?_))
        exact rq_normal has_a upd_a (H2 := lr ++ [_, _, _, _, _]) hsub_a (Or.inl ⟨rfl, _, lr, by rw [hnx, List.length_append, nats, List.map_append]; exact hr, perm_tail lr [_, _, _, _, _]⟩)
      · rw [decide_eq_false h0, Bool.false_and] at hob
        rw [hob, if_neg (by decide), List.append_nil] at hnx
        have e0 : (is == 0) = false := beq_eq_false_iff_ne.2 h0
        repeat' (first | refine aw_seq ?_ | ((first | apply ao_val | apply aq_val); exact wants_a; (first | exact ov_nilcheck rfl | exact ov_a); (exact rfl)) | refine zy ?_ | refine zon fun _ => ?_ | refine zoa fun vr lr hr => ?_ | refine zoS (fun _ => ?_) (fun _ => ?_) | refine zqS (fun _ => ?_) (fun _ => ?_) | refine zwS (fun _ => ?_) (fun _ => ?_))
        exact rq_normal has_a upd_a hsub_a (Or.inl ⟨rfl, _, l5, by rw [hnx]; exact r5, List.Perm.refl _⟩)
    · rw [show (!true) = false from rfl, Bool.and_false] at hob
      rw [hob, if_neg (by decide), List.append_nil] at hnx
      repeat' (first | refine aw_seq ?_ | ((first | apply ao_val | apply aq_val); exact wants_a; (first | exact ov_nilcheck rfl | exact ov_a); (exact rfl)) | refine zy ?_ | refine zon fun _ => ?_ | refine zoa fun vr lr hr => ?_ | refine zoS (fun _ => ?_) (fun _ => ?_) | refine zqS (fun _ => ?_) (fun _ => ?_) | refine zwS (fun _ => ?_) (fun _ => ?_))
      exact rq_normal has_a upd_a hsub_a (Or.inl ⟨rfl, _, l5, by rw [hnx]; exact r5, List.Perm.refl _⟩)
  · exact ⟨_, [], RowB.nil, List.Perm.refl _⟩
  · rintro v H' ⟨-, ⟨v5, l5, r5, hp⟩ | ⟨_, hf⟩⟩
    · refine ⟨.ready, none, _, by simp, hp, ?_⟩
      obtain ⟨av, cv, hv5⟩ := r5.len
      subst hv5
      unfold jumpQ
      repeat' (first | refine aw_seq ?_ | refine zz ?_ | refine zon fun _ => ?_ | refine zoa fun vr lr hr => ?_ | refine zoS (fun _ => ?_) (fun _ => ?_) | refine zqS (fun _ => ?_) (fun _ => ?_) | refine zwS (fun _ => ?_) (fun _ => ?_))
      exact fun w' hw => ⟨_, rfl, hw.below, _, r5, fun b o hm => hw.at_ b o (List.mem_cons_of_mem _ (List.mem_cons_of_mem _ (List.mem_cons_of_mem _ (List.mem_cons_of_mem _ (List.mem_append_left _ hm)))))⟩
    · exact hf.elim
set_option maxHeartbeats 16000000 in
theorem open0_ok (w : World) : Calls Try.prog 12 #[.pointer none] w fun e w' => ∃ r, e = .returned r ∧ NewRow 3 1 w w' r 0 [] := by
  refine calls1 (args := [.pointer none]) Try.func12 rfl rfl rfl rfl ?_
  repeat' (first | refine aw_seq ?_ | ((first | apply ao_val | apply aq_val); exact wants_a; (first | exact ov_nilcheck rfl | exact ov_peq0 rfl rfl | exact ov_a); (exact rfl)) | refine zy ?_ | refine zon fun _ => ?_ | refine zoa fun vr lr hr => ?_ | ((apply ao_callD; exact wants_a; (exact oc_func rfl); (exact rfl); (intro w hw; exact each_ok none w); rintro _ _ ⟨bx, cx, rfl, rfl⟩)) | refine zoS (fun _ => ?_) (fun _ => ?_) | refine zqS (fun _ => ?_) (fun _ => ?_) | refine zwS (fun _ => ?_) (fun _ => ?_))
  rename_i b1 b3
  refine aw_range (gf := 32) (bs := []) (lb := [.pointer (some ⟨bx, 0, none⟩), .pointer (some ⟨cx, 0, none⟩)]) rfl fun l r e1 e2 e3 hts => ?_
  refine CallsH.mono (each_it (q := none) (s := fun _ => false) (n := 0) (by omega) (by rw [e1]; rfl) (fun i H => H.Perm ((l, Lp r .ready none) :: (cx, boxS none) :: (bx, boxP none) :: (b3, .cells #[.slice none 0 0] 29 (0, 0)) :: (b1, boxP none) :: []))
    (fun _ _ => False) ?_ (fun H _ w' hw => len0_ok w') (fun i H hi _ w' hw => absurd hi (Nat.not_lt_zero i)) (fun i H hi _ => absurd hi (Nat.not_lt_zero i)) _ ?_) ?_
  · rintro i H hp
    exact ⟨has_perm hp has_a, has_perm hp has_a, has_perm hp has_a⟩
  · exact List.Perm.refl _
  · rintro v H' ⟨-, hp | ⟨i, hf⟩⟩
    · refine ⟨.ready, none, _, by simp, hp, ?_⟩
      unfold jumpQ
      repeat' (first | refine aw_seq ?_ | refine zz ?_ | refine zon fun _ => ?_ | refine zoa fun vr lr hr => ?_ | refine zoS (fun _ => ?_) (fun _ => ?_) | refine zqS (fun _ => ?_) (fun _ => ?_) | refine zwS (fun _ => ?_) (fun _ => ?_))
      exact fun w' hw => ⟨_, rfl, hw.below, [], RowB.nil, fun b o h => by cases h⟩
    · exact hf.elim
end Fdt
end Go.Proofs.Ytpenogailhlcaaa
