/- What is safe, as facts; the walk of FeedSafe of layer 10; conditions: none. -/
import Derived.Test.YtpenogailhlcaaaFdf
namespace Go.Proofs.Ytpenogailhlcaaa
namespace Fdt
open Go Go.RowKit Sx
attribute [local irreducible] Go.Calls

theorem safeL_spec (f : Fd) : ∀ k n, n ≤ safeL f k n ∧ safeL f k n ≤ n + k ∧ (∀ i, n ≤ i → i < safeL f k n → stB f i = true) ∧ (safeL f k n < n + k → stB f (safeL f k n) = false)
  | 0, n => ⟨Nat.le_refl _, Nat.le_refl _, fun i h1 h2 => absurd h2 (by rw [safeL]; omega), fun h => absurd h (by rw [safeL]; omega)⟩
  | k + 1, n => by
    rw [safeL]
    by_cases hs : stB f n = true
    · rw [if_pos hs]
      obtain ⟨h1, h2, h3, h4⟩ := safeL_spec f k (n + 1)
      refine ⟨by omega, by omega, fun i hi hl => ?_, fun h => h4 (by omega)⟩
      by_cases e : i = n
      · subst e; exact hs
      · exact h3 i (by omega) hl
    · rw [if_neg hs]
      exact ⟨Nat.le_refl _, by omega, fun i h1 h2 => absurd h2 (by omega), fun _ => by simpa using hs⟩
theorem safe_spec (f : Fd) : safeF f ≤ f.es.length ∧ (∀ i, i < safeF f → stB f i = true) ∧ (safeF f < f.es.length → stB f (safeF f) = false) := by
  obtain ⟨-, h2, h3, h4⟩ := safeL_spec f f.es.length 0
  exact ⟨by unfold safeF; omega, fun i hi => h3 i (Nat.zero_le _) hi, fun h => h4 (by unfold safeF at h; omega)⟩
theorem safe_le {f f2 : Fd} (hl : f.es.length ≤ f2.es.length) (hs : ∀ i, stB f i = true → stB f2 i = true) : safeF f ≤ safeF f2 := by
  obtain ⟨h1, h2, -⟩ := safe_spec f
  obtain ⟨-, -, h3⟩ := safe_spec f2
  refine Nat.le_of_not_lt fun h => ?_
  have := h3 (by omega)
  rw [hs _ (h2 _ h)] at this
  cases this
theorem safe_all {f : Fd} (h : ∀ i, i < f.es.length → stB f i = true) : safeF f = f.es.length := by
  obtain ⟨h1, -, h3⟩ := safe_spec f
  refine Nat.le_antisymm h1 (Nat.le_of_not_lt fun hl => ?_)
  have := h3 hl
  rw [h _ hl] at this
  cases this
theorem done_all {f : Fd} (h : ∀ i, i < f.es.length → stB f i = true) : settledF f = true := by
  unfold settledF doneF
  rw [List.all_eq_true]
  intro i hi
  rw [h i (List.mem_range.1 hi), Bool.or_true]
theorem safe_done {f : Fd} (h : safeF f = f.es.length) : settledF f = true := done_all fun i hi => (safe_spec f).2.1 i (by omega)
theorem open_none {f : Fd} (h : ∀ i, i < f.es.length → stB f i = true) : openF f = [] := by
  unfold openF openL
  rw [List.filter_eq_nil_iff]
  intro i hi
  have hs := h i (List.mem_range.1 hi)
  obtain ⟨⟨k, is⟩, he⟩ := getP (List.mem_range.1 hi)
  rw [opB_at he, hs]
  simp
theorem stB_set {f : Fd} {i j : Nat} {v : Int} (hv : v = 1 ∨ stB f i = false) (h : stB f j = true) : stB (setF f i v) j = true := by
  unfold stB at h ⊢
  rw [setF_get]
  cases hj : f.es[j]? with
  | none => rw [hj] at h; cases h
  | some e =>
    rw [hj] at h
    by_cases hij : j = i
    · rw [if_pos hij]
      rcases hv with rfl | hv
      · simp
      · subst hij
        unfold stB at hv
        rw [hj] at hv
        rw [hv] at h
        cases h
    · rw [if_neg hij]
      exact h
theorem stB_grow {f : Fd} {k : Kt} {j : Nat} (h : stB f j = true) : stB (growF f k) j = true := by
  unfold stB at h ⊢
  cases hj : f.es[j]? with
  | none => rw [hj] at h; cases h
  | some e =>
    rw [hj] at h
    rw [show (growF f k).es[j]? = some e by unfold growF; rw [List.getElem?_append_left (List.getElem?_eq_some_iff.1 hj).1, hj]]
    exact h
theorem stB_cover {f : Fd} {v : Int} {j : Nat} (hv : f.cov ≤ v) (h : stB f j = true) : stB ⟨f.es, v⟩ j = true := by
  unfold stB at h ⊢
  cases hj : f.es[j]? with
  | none => rw [hj] at h; cases h
  | some e =>
    rw [hj] at h
    rw [Bool.or_eq_true, decide_eq_true_eq, decide_eq_true_eq] at h ⊢
    exact h.imp id fun h => by show (j : Int) + 1 ≤ v; omega
theorem op_st {f : Fd} {i : Nat} (h : opB f i = true) : stB f i = false := by
  unfold opB at h
  split at h
  · rw [Bool.and_eq_true] at h
    simpa using h.2
  · cases h
theorem safe_do (f : Fd) (kind : Int) (k : Kt) (n : Int) : safeF f ≤ safeF (doF f kind k n).2 := by
  unfold doF
  split
  · exact safe_le (by show f.es.length ≤ (f.es ++ [(k, 0)]).length; rw [List.length_append]; omega) fun i => stB_grow
  split
  · rcases drop_cases f n with ⟨e, -⟩ | ⟨-, -, e⟩ | ⟨-, ho, e⟩ <;> rw [e]
    · exact Nat.le_refl _
    · exact Nat.le_refl _
    · exact safe_le (by simp only; rw [setF_len]; exact Nat.le_refl _) fun i => stB_set (.inr (op_st ho))
  split
  · rcases cover_cases f n with e | ⟨-, -, -, e⟩ | ⟨-, -, hc, e⟩ <;> rw [e]
    · exact Nat.le_refl _
    · exact Nat.le_refl _
    · exact safe_le (Nat.le_refl _) fun i => stB_cover hc
  · rcases tell_cases f n with ⟨e, -⟩ | ⟨x, -, -, ⟨-, e⟩ | ⟨-, -, e⟩ | ⟨-, -, e⟩⟩ <;> rw [e]
    · exact Nat.le_refl _
    · exact Nat.le_refl _
    · exact Nat.le_refl _
    · exact safe_le (by simp only; rw [setF_len]; exact Nat.le_refl _) fun i => stB_set (.inl rfl)
theorem st_covered {f : Fd} : ∀ i, i < f.es.length → stB ⟨f.es, f.es.length⟩ i = true := fun i hi => by
  obtain ⟨⟨k, is⟩, he⟩ := getP hi
  have := stB_at (f := ⟨f.es, f.es.length⟩) he
  rw [this, Bool.or_eq_true, decide_eq_true_eq, decide_eq_true_eq]
  exact .inr (by show (i : Int) + 1 ≤ (f.es.length : Int); omega)
set_option maxHeartbeats 64000000 in
theorem safes_ok (v : Value) (xs : List Ac) (hn : ∀ a ∈ xs, 0 ≤ a.kind) (w : World) (hv : OldRow w 5 v xs.length (xs.flatMap cellsA)) : Calls Try.prog 4 #[v] w fun e w' => e = .returned (.bool true) ∧ Below w.heap.size w w' := by
  have hfit := fun w' (hb : Below w.heap.size w w') => fits10_ok v xs w' (OldRow.below hv hb)
  obtain ⟨a, cp, rfl, hat⟩ := OldRow.cells cellsA_len hv
  refine calls1 (args := [.slice a xs.length cp]) Try.func4 rfl rfl rfl rfl ?_
  cases hq : fitA xs
  · rw [hq] at hfit
    repeat' (first | refine aw_seq ?_ | refine zz ?_ | refine zon fun _ => ?_ | refine zoa fun vr lr hr => ?_ | ((first | apply ao_call | apply aq_call); exact wants_a; (first | exact oc_func rfl | exact oc_clos rfl rfl | exact oc_bnd rfl rfl); (exact rfl); (first | exact fun w hw => hfit w hw.below | exact fun w hw => alive_ok w)) | refine zoS (fun _ => ?_) (fun _ => ?_) | refine zqS (fun _ => ?_) (fun _ => ?_) | refine zwS (fun _ => ?_) (fun _ => ?_))
    exact fun w' hw => ⟨rfl, hw.below⟩
  rw [hq] at hfit
  obtain ⟨h100, hks⟩ := fitA_wf hq
  repeat' (first | refine aw_seq ?_ | refine zz ?_ | refine zon fun _ => ?_ | refine zoa fun vr lr hr => ?_ | ((first | apply ao_call | apply aq_call); exact wants_a; (first | exact oc_func rfl | exact oc_clos rfl rfl | exact oc_bnd rfl rfl); (exact rfl); (first | exact fun w hw => hfit w hw.below)) | ((apply ao_callD; exact wants_a; (exact oc_func rfl); (exact rfl); (intro w hw; exact lnew_ok w); intro vr lr hr; obtain ⟨g, hvr, hL⟩ := hr; subst hvr)) | refine zoS (fun _ => ?_) (fun _ => ?_) | refine zqS (fun _ => ?_) (fun _ => ?_) | refine zwS (fun _ => ?_) (fun _ => ?_))
  refine aw_for (t0 := [(0, .slice a xs.length cp), (4, .pointer (some ⟨g, 0, none⟩)), (5, I (0 : Nat))]) (fun q t H => ∃ (i : Nat) (f : Fd) (l : Hp), q = xs.length - i ∧ i ≤ xs.length ∧ LFd f g l ∧ FitF f ∧ f.es.length ≤ i ∧
      t = [(0, .slice a xs.length cp), (4, .pointer (some ⟨g, 0, none⟩)), (5, I i)] ∧ H = l ++ [])
    ⟨0, .new, lr, rfl, by omega, hL, FitF.new, Nat.le_refl _, rfl, rfl⟩ (by repeat (first | exact sub_nil | refine sub_cons rfl ?_)) ?_
  clear hL
  rintro q t H ⟨i, f, l, rfl, hi, hL, hF, hln, rfl, rfl⟩
  by_cases hlt : i < xs.length
  · obtain ⟨⟨kind, k, n⟩, he⟩ := getP hlt
    have m1 := List.mem_of_getElem? he
    have hk0 := hn _ m1
    have hkk := hks _ m1
    obtain ⟨ga, o1, rfl, hg, hc⟩ := hat i _ (i : Int) he rfl
    have cA : ∀ (j : Nat) z, [.int .u8 kind, S k.1, S k.2.1, S k.2.2, I n][j]? = some z → w.cell? ⟨ga, o1 + (i : Int).toNat * 5 + j, none⟩ = some z := hc
    have hdo := fun m R => ldo_ok (m := m) (w0 := w) hL hF ⟨kind, k, n⟩ hk0 hkk R
    have hF2 := fit_doF hF (by omega) kind hkk n
    have hl2 := (do_wf hF.wf kind k n).2
    have hsd := safe_do f kind k n
    unfold LDid at hdo
    simp only at hdo
    generalize doF f kind k n = X at hdo hF2 hl2 hsd
    obtain ⟨er, f2⟩ := X
    simp only at hdo hF2 hl2 hsd
    have hs0 := fun w' (hl : Lies w' l) => lsafe_ok hL hF w' hl
    have hsl := (safe_spec f2).1
    have hdn := safe_done (f := f2)
    repeat' (first | refine aw_seq ?_ | ((first | apply ao_val | apply aq_val); exact wants_a; (first | exact ov_load_oa rfl hg cA rfl | exact ov_a); (exact rfl)) | refine zy ?_ | refine zon fun _ => ?_ | refine zoa fun vr lr hr => ?_ | ((first | apply ao_call | apply aq_call); exact wants_a; (first | exact oc_func rfl | exact oc_clos rfl rfl | exact oc_bnd rfl rfl); (exact rfl); (first | exact fun w hw => hs0 w (lies_of hw (l := l) cut_a))) | ((apply ao_callH (l := l); exact wants_a; (exact oc_func rfl); (exact rfl); (exact Cut.here); (exact hdo _ _); rintro _ _ ⟨rfl, l2, rfl, hL2⟩)) | refine zoS (fun _ => ?_) (fun _ => ?_) | refine zqS (fun _ => ?_) (fun _ => ?_) | refine zwS (fun _ => ?_) (fun _ => ?_))
    have hn2 := fun w' (hl : Lies w' l2) => llen_ok hL2 hF2 w' hl
    have hs := fun w' (hl : Lies w' l2) => lsafe_ok hL2 hF2 w' hl
    have hd := fun w' (hl : Lies w' l2) => ldone_ok hL2 hF2 w' hl
    clear hs0
    by_cases hall : safeF f2 = f2.es.length
    · have hd1 := hdn hall
      rw [hd1] at hd
      repeat' (first | refine aw_seq ?_ | refine zz ?_ | refine zon fun _ => ?_ | refine zoa fun vr lr hr => ?_ | ((first | apply ao_call | apply aq_call); exact wants_a; (first | exact oc_func rfl | exact oc_clos rfl rfl | exact oc_bnd rfl rfl); (exact rfl); (first | exact fun w hw => hn2 w (lies_of hw (l := l2) cut_a) | exact fun w hw => hs w (lies_of hw (l := l2) cut_a) | exact fun w hw => hd w (lies_of hw (l := l2) cut_a))) | refine zoS (fun _ => ?_) (fun _ => ?_) | refine zqS (fun _ => ?_) (fun _ => ?_) | refine zwS (fun _ => ?_) (fun _ => ?_))
      exact lq_normal' ⟨i + 1, f2, l2, rfl, by omega, hL2, hF2, by omega, rfl, rfl⟩ (by omega) (by repeat (first | exact sub_nil | refine sub_cons rfl ?_)) hsub_a
    · repeat' (first | refine aw_seq ?_ | refine zz ?_ | refine zon fun _ => ?_ | refine zoa fun vr lr hr => ?_ | ((first | apply ao_call | apply aq_call); exact wants_a; (first | exact oc_func rfl | exact oc_clos rfl rfl | exact oc_bnd rfl rfl); (exact rfl); (first | exact fun w hw => hn2 w (lies_of hw (l := l2) cut_a) | exact fun w hw => hs w (lies_of hw (l := l2) cut_a) | exact fun w hw => hd w (lies_of hw (l := l2) cut_a))) | refine zoS (fun _ => ?_) (fun _ => ?_) | refine zqS (fun _ => ?_) (fun _ => ?_) | refine zwS (fun _ => ?_) (fun _ => ?_))
      exact lq_normal' ⟨i + 1, f2, l2, rfl, by omega, hL2, hF2, by omega, rfl, rfl⟩ (by omega) (by repeat (first | exact sub_nil | refine sub_cons rfl ?_)) hsub_a
  · obtain rfl : i = xs.length := by omega
    have hcv : coverF f f.es.length = (0, ⟨f.es, f.es.length⟩) := by
      have := hF.wf.hi
      unfold coverF
      rw [if_neg (by omega), if_neg (by omega)]
    have hF2 : FitF ⟨f.es, f.es.length⟩ := ⟨⟨hF.wf.is, by show (0 : Int) ≤ (f.es.length : Int); omega, Int.le_refl _⟩, hF.len, hF.ks⟩
    have hco := fun m R => lcover_ok (m := m) (w0 := w) hL hF f.es.length R
    unfold LDid at hco
    simp only [hcv] at hco
    have hn0 := fun w' (hl : Lies w' l) => llen_ok hL hF w' hl
    have h1 : safeF ⟨f.es, f.es.length⟩ = f.es.length := safe_all st_covered
    have h2 : settledF ⟨f.es, f.es.length⟩ = true := done_all st_covered
    have h3 : openF ⟨f.es, f.es.length⟩ = [] := open_none st_covered
    repeat' (first | refine aw_seq ?_ | refine zz ?_ | refine zon fun _ => ?_ | refine zoa fun vr lr hr => ?_ | ((first | apply ao_call | apply aq_call); exact wants_a; (first | exact oc_func rfl | exact oc_clos rfl rfl | exact oc_bnd rfl rfl); (exact rfl); (first | exact fun w hw => hn0 w (lies_of hw (l := l) cut_a) | exact fun w hw => alive_ok w)) | ((apply ao_callH (l := l); exact wants_a; (exact oc_func rfl); (exact rfl); (exact Cut.here); (exact hco _ _); rintro _ _ ⟨rfl, l2, rfl, hL2⟩)) | refine zoS (fun _ => ?_) (fun _ => ?_) | refine zqS (fun _ => ?_) (fun _ => ?_) | refine zwS (fun _ => ?_) (fun _ => ?_))
    have hn2 := fun w' (hl : Lies w' l2) => llen_ok hL2 hF2 w' hl
    have hs := fun w' (hl : Lies w' l2) => lsafe_ok hL2 hF2 w' hl
    have hd := fun w' (hl : Lies w' l2) => ldone_ok hL2 hF2 w' hl
    have ho := fun w' (hl : Lies w' l2) => lopen_ok hL2 hF2 w' hl
    simp only [h1] at hs
    simp only [h2] at hd
    simp only [h3] at ho
    clear hn0
    repeat' (first | refine aw_seq ?_ | refine zz ?_ | refine zon fun _ => ?_ | refine zoa fun vr lr hr => ?_ | ((first | apply ao_call | apply aq_call); exact wants_a; (first | exact oc_func rfl | exact oc_clos rfl rfl | exact oc_bnd rfl rfl); (exact rfl); (first | exact fun w hw => hn2 w (lies_of hw (l := l2) cut_a) | exact fun w hw => hs w (lies_of hw (l := l2) cut_a) | exact fun w hw => hd w (lies_of hw (l := l2) cut_a))) | ((apply ao_callrg; exact wants_a; (exact oc_func rfl); (exact rfl); (intro w hw; exact ho w (lies_of hw (l := l2) cut_a)); intro v6 l6 r6; obtain ⟨a6, c6, hz6⟩ := r6.len; subst hz6)) | refine zoS (fun _ => ?_) (fun _ => ?_) | refine zqS (fun _ => ?_) (fun _ => ?_) | refine zwS (fun _ => ?_) (fun _ => ?_))
    exact fun w' hw => ⟨rfl, hw.below⟩
end Fdt
end Go.Proofs.Ytpenogailhlcaaa
