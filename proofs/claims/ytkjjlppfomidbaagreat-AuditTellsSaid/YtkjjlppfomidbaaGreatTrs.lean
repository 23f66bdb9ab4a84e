/- Acts on a tree, as the laws of layer 11 do them: which are gone through, what each tells; texts; conditions: none. -/
import Derived.Test.YtkjjlppfomidbaaGreatTrl
namespace Go.Proofs.YtkjjlppfomidbaaGreat
namespace Trt
open Go Go.RowKit Sx
attribute [local irreducible] Go.Calls
structure Ac where
  kind : Int
  n : Nm
  o : Nm
def cellsA (a : Ac) : List Value := [.int .u8 a.kind, S a.n, S a.o]
abbrev AV (a : Ac) : Value := .agg #[.int .u8 a.kind, S a.n, S a.o]
theorem cellsA_len (a : Ac) : (cellsA a).length = 3 := rfl
def fitN (a : Ac) : Prop := a.n.length ≤ 100 ∧ a.o.length ≤ 100
instance (a : Ac) : Decidable (fitN a) := by unfold fitN; infer_instance
def fitA (l : List Ac) : Bool := decide (l.length ≤ 60) && l.all fun a => decide (fitN a)
theorem fitA_wf {l : List Ac} (h : fitA l = true) : l.length ≤ 60 ∧ ∀ a ∈ l, fitN a := by
  unfold fitA at h
  rw [Bool.and_eq_true, decide_eq_true_eq, List.all_eq_true] at h
  exact ⟨h.1, fun a ha => of_decide_eq_true (h.2 a ha)⟩
set_option maxHeartbeats 16000000 in
theorem fits11_ok (v : Value) (l : List Ac) (w : World) (hv : OldRow w 3 v l.length (l.flatMap cellsA)) :
    Calls Tryz.prog 27 #[v] w fun e w' => e = .returned (.bool (fitA l)) ∧ Below w.heap.size w w' := by
  obtain ⟨a, cp, rfl, hat⟩ := OldRow.cells cellsA_len hv
  refine calls1 (args := [.slice a l.length cp]) Tryz.func27 rfl rfl rfl rfl ?_
  by_cases h60 : l.length ≤ 60
  · repeat' (first | refine aw_seq ?_ | refine zz ?_ | refine zon fun _ => ?_ | refine zoa fun vr lr hr => ?_ | refine zoS (fun _ => ?_) (fun _ => ?_) | refine zqS (fun _ => ?_) (fun _ => ?_) | refine zwS (fun _ => ?_) (fun _ => ?_))
    refine aw_for (t0 := [(0, .slice a l.length cp), (3, I (0 : Nat))]) (fun q t H => ∃ i : Nat, q = l.length - i ∧ i ≤ l.length ∧ (∀ (j : Nat) (e : Ac), j < i → l[j]? = some e → fitN e) ∧ t = [(0, .slice a l.length cp), (3, I i)] ∧ H = []) ⟨0, rfl, by omega, fun j p hj => by omega, rfl, rfl⟩ (by repeat (first | exact sub_nil | refine sub_cons rfl ?_)) ?_
    rintro q t H ⟨i, rfl, hi, hall, rfl, rfl⟩
    by_cases hlt : i < l.length
    · obtain ⟨⟨kind, k1, k2⟩, he⟩ := getP hlt
      obtain ⟨g, o1, rfl, hg, hc⟩ := hat i _ (i : Int) he rfl
      have c1 : w.cell? ⟨g, o1 + (i : Int).toNat * 3 + 1, none⟩ = some (S k1) := hc 1 _ rfl
      have c2 : w.cell? ⟨g, o1 + (i : Int).toNat * 3 + 2, none⟩ = some (S k2) := hc 2 _ rfl
      have m1 := List.mem_of_getElem? he
      have bad : ¬ fitN ⟨kind, k1, k2⟩ → fitA l = false := fun h => by
        unfold fitA
        rw [show (l.all fun a => decide (fitN a)) = false from List.all_eq_false.2 ⟨_, m1, by rw [decide_eq_false h]; decide⟩, Bool.and_false]
      by_cases h1 : 100 < k1.length
      · rw [bad fun h => by have := h.1; simp only at this; omega]
        repeat' (first | refine aw_seq ?_ | refine zz ?_ | refine zon fun _ => ?_ | refine zoa fun vr lr hr => ?_ | refine zoS (fun _ => ?_) (fun _ => ?_) | refine zqS (fun _ => ?_) (fun _ => ?_) | refine zwS (fun _ => ?_) (fun _ => ?_))
        exact fun w' hw => ⟨rfl, hw.below⟩
      by_cases h2 : 100 < k2.length
      · rw [bad fun h => by have := h.2; simp only at this; omega]
        repeat' (first | refine aw_seq ?_ | refine zz ?_ | refine zon fun _ => ?_ | refine zoa fun vr lr hr => ?_ | refine zoS (fun _ => ?_) (fun _ => ?_) | refine zqS (fun _ => ?_) (fun _ => ?_) | refine zwS (fun _ => ?_) (fun _ => ?_))
        exact fun w' hw => ⟨rfl, hw.below⟩
      · repeat' (first | refine aw_seq ?_ | refine zz ?_ | refine zon fun _ => ?_ | refine zoa fun vr lr hr => ?_ | refine zoS (fun _ => ?_) (fun _ => ?_) | refine zqS (fun _ => ?_) (fun _ => ?_) | refine zwS (fun _ => ?_) (fun _ => ?_))
        exact lq_normal' ⟨i + 1, rfl, by omega, fun j z hj hz => by
          by_cases e1 : j = i
          · subst e1; rw [he] at hz; cases hz; exact ⟨by simp only; omega, by simp only; omega⟩
          · exact hall j z (by omega) hz, rfl, rfl⟩ (by omega) (by repeat (first | exact sub_nil | refine sub_cons rfl ?_)) hsub_a
    · obtain rfl : i = l.length := by omega
      rw [show fitA l = true by
        unfold fitA
        rw [decide_eq_true h60, Bool.true_and]
        exact List.all_eq_true.2 fun e he => by
          obtain ⟨j, hj⟩ := List.getElem?_of_mem he
          exact decide_eq_true (hall j e (List.getElem?_eq_some_iff.1 hj).1 hj)]
      repeat' (first | refine aw_seq ?_ | refine zz ?_ | refine zon fun _ => ?_ | refine zoa fun vr lr hr => ?_ | refine zoS (fun _ => ?_) (fun _ => ?_) | refine zqS (fun _ => ?_) (fun _ => ?_) | refine zwS (fun _ => ?_) (fun _ => ?_))
      exact fun w' hw => ⟨rfl, hw.below⟩
  · rw [show fitA l = false by unfold fitA; rw [decide_eq_false h60]; rfl]
    repeat' (first | refine aw_seq ?_ | refine zz ?_ | refine zon fun _ => ?_ | refine zoa fun vr lr hr => ?_ | refine zoS (fun _ => ?_) (fun _ => ?_) | refine zqS (fun _ => ?_) (fun _ => ?_) | refine zwS (fun _ => ?_) (fun _ => ?_))
    exact fun w' hw => ⟨rfl, hw.below⟩
theorem lab_ne {n : Nm} (h : Lab.rightB n = true) : n ≠ [] := by
  rintro rfl
  exact absurd h (by decide)
theorem FitT.new : FitT Tr.new := by
  have hh : hasT Tr.new rootN = true := rfl
  refine ⟨⟨List.pairwise_singleton _ _, List.mem_singleton.2 rfl, fun e he => ?_, fun e he hr => ?_, fun e he => ?_⟩, by show (1 : Nat) ≤ 200; omega, fun e he => ?_, fun e he hr => ?_⟩
  all_goals cases List.mem_singleton.1 he
  · exact fun h => by cases h
  · exact absurd rfl hr
  · show (pathT Tr.new rootN).length ≤ 8
    decide
  · show (4 : Nat) ≤ 100
    omega
  · exact absurd rfl hr
theorem do_nm {rg : Bool} {t : Tr} (h : ∀ e ∈ t, e.1.length ≤ 100) (kind : Int) {n : Nm} (hn : n.length ≤ 100) (o : Nm) : ∀ e ∈ (doT rg t kind n o).2, e.1.length ≤ 100 := by
  unfold doT
  split
  · unfold moveT
    repeat' split
    all_goals first | exact h | skip
    intro e he
    unfold setP at he
    obtain ⟨x, hx, rfl⟩ := List.mem_map.1 he
    split
    · exact hn
    · exact h x hx
  split
  · unfold removeT
    repeat' split
    all_goals first | exact h | skip
    exact fun e he => h e (List.mem_filter.1 he).1
  · unfold createT
    repeat' split
    all_goals first | exact h | skip
    intro e he
    rcases insT_mem.1 he with rfl | he
    · exact hn
    · exact h e he
theorem do_200 {rg : Bool} {t : Tr} (h : t.length ≤ 200) (kind : Int) (n o : Nm) : (doT rg t kind n o).2.length ≤ 200 := by
  unfold doT
  split
  · unfold moveT
    repeat' split
    all_goals first | exact h | skip
    simp only
    rw [setP_len]
    exact h
  split
  · unfold removeT
    repeat' split
    all_goals first | exact h | skip
    exact Nat.le_trans (List.length_filter_le _ _) h
  · unfold createT
    repeat' split
    all_goals first | exact h | skip
    simp only
    rw [insT_len]
    omega
theorem fit_doT {t : Tr} (h : FitT t) (kind : Int) {n : Nm} (hn : n.length ≤ 100) (o : Nm) : FitT (doT (Lab.rightB n) t kind n o).2 :=
  ⟨(do_wfT h.wf kind lab_ne o).1, do_200 h.len kind n o, do_nm h.nm kind hn o, lab_do h.lab kind n o⟩
theorem mod4 (k : Int) : k % 4 = 0 ∨ k % 4 = 1 ∨ k % 4 = 2 ∨ k % 4 = 3 := by omega
theorem do_01 {rg : Bool} {t : Tr} {kind : Int} {n o : Nm} (h : kind % 4 = 0 ∨ kind % 4 = 1) : doT rg t kind n o = createT rg t n o := by unfold doT; rw [if_neg (by omega), if_neg (by omega)]
theorem do_2 {rg : Bool} {t : Tr} {kind : Int} {n o : Nm} (h : kind % 4 = 2) : doT rg t kind n o = moveT t n o := by unfold doT; rw [if_pos h]
theorem do_3 {rg : Bool} {t : Tr} {kind : Int} {n o : Nm} (h : kind % 4 = 3) : doT rg t kind n o = removeT t n := by unfold doT; rw [if_neg (by omega), if_pos h]
theorem ov_rem4 {P : Program} {E : Env} {t : Tm} {H : Hp} {ty xt yt : TypeId} {x y : Operand} {k : IntKind} {p r : Int} (h0 : 0 ≤ p) (hr : p % 4 = r) (hx : ev t x = some (.int k p)) (hy : ev t y = some (.int k 4)) : OpV P E (.binOp .rem xt x y yt) ty t H (.int k r) := by
  have := ov_rem_in (P := P) (E := E) (t := t) (H := H) (ty := ty) (xt := xt) (yt := yt) hx hy ⟨h0, by decide⟩
  rwa [hr] at this
set_option maxHeartbeats 16000000 in
theorem ldo_ok {m : Nat} {w0 : World} {t : Tr} {g : Nat} {l : Hp} (h : LTr t g l) (hf : FitT t) (a : Ac) (h0 : 0 ≤ a.kind) (hk : fitN a) (R : Hp) :
    CallsH Tryz.prog ⟨w0.heap.size, w0, m⟩ 32 [.pointer (some ⟨g, 0, none⟩), AV a] (l ++ R) (LDid g (doT (Lab.rightB a.n) t a.kind a.n a.o) R) := by
  obtain ⟨kind, n, o⟩ := a
  simp only at h0 hk ⊢
  have hC := fun m R => tcreate_ok (m := m) (w0 := w0) h hf n o hk.1 R
  have hM := fun m R => tmove_ok (m := m) (w0 := w0) h hf n o R
  have hR := fun m R => tremove_ok (m := m) (w0 := w0) h hf n R
  refine callsH1p (args := [.pointer (some ⟨g, 0, none⟩), AV ⟨kind, n, o⟩]) Tryz.func32 rfl rfl rfl rfl ?_
  rcases mod4 kind with h7 | h7 | h7 | h7
  · rw [do_01 (.inl h7)]
    repeat' (first | refine aw_seq ?_ | ((first | apply ao_val | apply aq_val); exact wants_a; (first | exact ov_rem4 h0 h7 rfl rfl | exact ov_a); (exact rfl)) | refine zy ?_ | refine zon fun _ => ?_ | refine zoa fun vr lr hr => ?_ | ((apply ao_callH (l := l); exact wants_a; (exact oc_func rfl); (exact rfl); (exact Cut.skip _ Cut.here); (exact hC _ _); rintro _ _ ⟨rfl, l2, rfl, hL2⟩)) | refine zoS (fun _ => ?_) (fun _ => ?_) | refine zqS (fun _ => ?_) (fun _ => ?_) | refine zwS (fun _ => ?_) (fun _ => ?_))
    exact ⟨l2 ++ R, _, hsub_a, List.Perm.refl _, rfl, l2, rfl, hL2⟩
  · rw [do_01 (.inr h7)]
    repeat' (first | refine aw_seq ?_ | ((first | apply ao_val | apply aq_val); exact wants_a; (first | exact ov_rem4 h0 h7 rfl rfl | exact ov_a); (exact rfl)) | refine zy ?_ | refine zon fun _ => ?_ | refine zoa fun vr lr hr => ?_ | ((apply ao_callH (l := l); exact wants_a; (exact oc_func rfl); (exact rfl); (exact Cut.skip _ Cut.here); (exact hC _ _); rintro _ _ ⟨rfl, l2, rfl, hL2⟩)) | refine zoS (fun _ => ?_) (fun _ => ?_) | refine zqS (fun _ => ?_) (fun _ => ?_) | refine zwS (fun _ => ?_) (fun _ => ?_))
    exact ⟨l2 ++ R, _, hsub_a, List.Perm.refl _, rfl, l2, rfl, hL2⟩
  · rw [do_2 h7]
    repeat' (first | refine aw_seq ?_ | ((first | apply ao_val | apply aq_val); exact wants_a; (first | exact ov_rem4 h0 h7 rfl rfl | exact ov_a); (exact rfl)) | refine zy ?_ | refine zon fun _ => ?_ | refine zoa fun vr lr hr => ?_ | ((apply ao_callH (l := l); exact wants_a; (exact oc_func rfl); (exact rfl); (exact Cut.skip _ Cut.here); (exact hM _ _); rintro _ _ ⟨rfl, l2, rfl, hL2⟩)) | refine zoS (fun _ => ?_) (fun _ => ?_) | refine zqS (fun _ => ?_) (fun _ => ?_) | refine zwS (fun _ => ?_) (fun _ => ?_))
    exact ⟨l2 ++ R, _, hsub_a, List.Perm.refl _, rfl, l2, rfl, hL2⟩
  · rw [do_3 h7]
    repeat' (first | refine aw_seq ?_ | ((first | apply ao_val | apply aq_val); exact wants_a; (first | exact ov_rem4 h0 h7 rfl rfl | exact ov_a); (exact rfl)) | refine zy ?_ | refine zon fun _ => ?_ | refine zoa fun vr lr hr => ?_ | ((apply ao_callH (l := l); exact wants_a; (exact oc_func rfl); (exact rfl); (exact Cut.skip _ Cut.here); (exact hR _ _); rintro _ _ ⟨rfl, l2, rfl, hL2⟩)) | refine zoS (fun _ => ?_) (fun _ => ?_) | refine zqS (fun _ => ?_) (fun _ => ?_) | refine zwS (fun _ => ?_) (fun _ => ?_))
    exact ⟨l2 ++ R, _, hsub_a, List.Perm.refl _, rfl, l2, rfl, hL2⟩
set_option maxHeartbeats 16000000 in
theorem rwant_ok {m : Nat} {w0 : World} {t : Tr} {g : Nat} {l : Hp} (h : RTr g t l) (hf : FitT t) (a : Ac) (h0 : 0 ≤ a.kind) (hk : fitN a) (R : Hp) :
    CallsH Tryz.prog ⟨w0.heap.size, w0, m⟩ 33 [.pointer (some ⟨g, 0, none⟩), AV a] (l ++ R) (RDid g (doT (Lab.rightB a.n) t a.kind a.n a.o) R) := by
  obtain ⟨kind, n, o⟩ := a
  simp only at h0 hk ⊢
  have hC := fun m R => rcreate_ok (m := m) (w0 := w0) h hf.pos hf.len hf.wf.deep hf.nm n o hk.1 R
  have hM := fun m R => rmove_ok (m := m) (w0 := w0) h hf.wf hf.pos hf.len n o R
  have hR := fun m R => rrem_ok (m := m) (w0 := w0) h hf.pos hf.len n R
  refine callsH1p (args := [.pointer (some ⟨g, 0, none⟩), AV ⟨kind, n, o⟩]) Tryz.func33 rfl rfl rfl rfl ?_
  rcases mod4 kind with h7 | h7 | h7 | h7
  · rw [do_01 (.inl h7)]
    repeat' (first | refine aw_seq ?_ | ((first | apply ao_val | apply aq_val); exact wants_a; (first | exact ov_rem4 h0 h7 rfl rfl | exact ov_a); (exact rfl)) | refine zy ?_ | refine zon fun _ => ?_ | refine zoa fun vr lr hr => ?_ | ((apply ao_callH (l := l); exact wants_a; (exact oc_func rfl); (exact rfl); (exact Cut.skip _ Cut.here); (exact hC _ _); rintro _ _ ⟨rfl, l2, rfl, hL2⟩)) | refine zoS (fun _ => ?_) (fun _ => ?_) | refine zqS (fun _ => ?_) (fun _ => ?_) | refine zwS (fun _ => ?_) (fun _ => ?_))
    exact ⟨l2 ++ R, _, hsub_a, List.Perm.refl _, rfl, l2, rfl, hL2⟩
  · rw [do_01 (.inr h7)]
    repeat' (first | refine aw_seq ?_ | ((first | apply ao_val | apply aq_val); exact wants_a; (first | exact ov_rem4 h0 h7 rfl rfl | exact ov_a); (exact rfl)) | refine zy ?_ | refine zon fun _ => ?_ | refine zoa fun vr lr hr => ?_ | ((apply ao_callH (l := l); exact wants_a; (exact oc_func rfl); (exact rfl); (exact Cut.skip _ Cut.here); (exact hC _ _); rintro _ _ ⟨rfl, l2, rfl, hL2⟩)) | refine zoS (fun _ => ?_) (fun _ => ?_) | refine zqS (fun _ => ?_) (fun _ => ?_) | refine zwS (fun _ => ?_) (fun _ => ?_))
    exact ⟨l2 ++ R, _, hsub_a, List.Perm.refl _, rfl, l2, rfl, hL2⟩
  · rw [do_2 h7]
    repeat' (first | refine aw_seq ?_ | ((first | apply ao_val | apply aq_val); exact wants_a; (first | exact ov_rem4 h0 h7 rfl rfl | exact ov_a); (exact rfl)) | refine zy ?_ | refine zon fun _ => ?_ | refine zoa fun vr lr hr => ?_ | ((apply ao_callH (l := l); exact wants_a; (exact oc_func rfl); (exact rfl); (exact Cut.skip _ Cut.here); (exact hM _ _); rintro _ _ ⟨rfl, l2, rfl, hL2⟩)) | refine zoS (fun _ => ?_) (fun _ => ?_) | refine zqS (fun _ => ?_) (fun _ => ?_) | refine zwS (fun _ => ?_) (fun _ => ?_))
    exact ⟨l2 ++ R, _, hsub_a, List.Perm.refl _, rfl, l2, rfl, hL2⟩
  · rw [do_3 h7]
    repeat' (first | refine aw_seq ?_ | ((first | apply ao_val | apply aq_val); exact wants_a; (first | exact ov_rem4 h0 h7 rfl rfl | exact ov_a); (exact rfl)) | refine zy ?_ | refine zon fun _ => ?_ | refine zoa fun vr lr hr => ?_ | ((apply ao_callH (l := l); exact wants_a; (exact oc_func rfl); (exact rfl); (exact Cut.skip _ Cut.here); (exact hR _ _); rintro _ _ ⟨rfl, l2, rfl, hL2⟩)) | refine zoS (fun _ => ?_) (fun _ => ?_) | refine zqS (fun _ => ?_) (fun _ => ?_) | refine zwS (fun _ => ?_) (fun _ => ?_))
    exact ⟨l2 ++ R, _, hsub_a, List.Perm.refl _, rfl, l2, rfl, hL2⟩
end Trt
end Go.Proofs.YtkjjlppfomidbaaGreat
