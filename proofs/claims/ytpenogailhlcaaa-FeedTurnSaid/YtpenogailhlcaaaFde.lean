/- Acts on a feed, as the laws of layer 10 do them: which are gone through, what each tells; conditions: none. -/
import Derived.Test.YtpenogailhlcaaaFdl
namespace Go.Proofs.Ytpenogailhlcaaa
namespace Fdt
open Go Go.RowKit Sx
attribute [local irreducible] Go.Calls

/-- An act that comes in: its kind, its key, its number. -/
structure Ac where
  kind : Int
  k : Kt
  n : Int
def cellsA (a : Ac) : List Value := [.int .u8 a.kind, S a.k.1, S a.k.2.1, S a.k.2.2, I a.n]
abbrev AV (a : Ac) : Value := .agg #[.int .u8 a.kind, S a.k.1, S a.k.2.1, S a.k.2.2, I a.n]
theorem cellsA_len (a : Ac) : (cellsA a).length = 5 := rfl
instance (k : Kt) : Decidable (fitK k) := by unfold fitK; infer_instance
def fitA (l : List Ac) : Bool := decide (l.length ≤ 100) && l.all fun a => decide (fitK a.k)
theorem fitA_wf {l : List Ac} (h : fitA l = true) : l.length ≤ 100 ∧ ∀ a ∈ l, fitK a.k := by
  unfold fitA at h
  rw [Bool.and_eq_true, decide_eq_true_eq, List.all_eq_true] at h
  exact ⟨h.1, fun a ha => of_decide_eq_true (h.2 a ha)⟩
set_option maxHeartbeats 16000000 in
theorem fits10_ok (v : Value) (l : List Ac) (w : World) (hv : OldRow w 5 v l.length (l.flatMap cellsA)) :
    Calls Try.prog 6 #[v] w fun e w' => e = .returned (.bool (fitA l)) ∧ Below w.heap.size w w' := by
  obtain ⟨a, cp, rfl, hat⟩ := OldRow.cells cellsA_len hv
  refine calls1 (args := [.slice a l.length cp]) Try.func6 rfl rfl rfl rfl ?_
  by_cases h60 : l.length ≤ 100
  · repeat' (first | refine aw_seq ?_ | refine zz ?_ | refine zon fun _ => ?_ | refine zoa fun vr lr hr => ?_ | refine zoS (fun _ => ?_) (fun _ => ?_) | refine zqS (fun _ => ?_) (fun _ => ?_) | refine zwS (fun _ => ?_) (fun _ => ?_))
    refine aw_for (t0 := [(0, .slice a l.length cp), (3, I (0 : Nat))]) (fun q t H => ∃ i : Nat, q = l.length - i ∧ i ≤ l.length ∧ (∀ (j : Nat) (e : Ac), j < i → l[j]? = some e → fitK e.k) ∧ t = [(0, .slice a l.length cp), (3, I i)] ∧ H = []) ⟨0, rfl, by omega, fun j p hj => by omega, rfl, rfl⟩ (by repeat (first | exact sub_nil | refine sub_cons rfl ?_)) ?_
    rintro q t H ⟨i, rfl, hi, hall, rfl, rfl⟩
    by_cases hlt : i < l.length
    · obtain ⟨⟨kind, ⟨k1, k2, k3⟩, n⟩, he⟩ := getP hlt
      obtain ⟨g, o1, rfl, hg, hc⟩ := hat i _ (i : Int) he rfl
      have c1 : w.cell? ⟨g, o1 + (i : Int).toNat * 5 + 1 + 0, none⟩ = some (S k1) := hc 1 _ rfl
      have c2 : w.cell? ⟨g, o1 + (i : Int).toNat * 5 + 1 + 1, none⟩ = some (S k2) := hc 2 _ rfl
      have c3 : w.cell? ⟨g, o1 + (i : Int).toNat * 5 + 1 + 2, none⟩ = some (S k3) := hc 3 _ rfl
      have m1 := List.mem_of_getElem? he
      have bad : ¬ fitK (k1, k2, k3) → fitA l = false := fun h => by
        unfold fitA
        rw [show (l.all fun a => decide (fitK a.k)) = false from List.all_eq_false.2 ⟨_, m1, by simp only; rw [decide_eq_false h]; decide⟩, Bool.and_false]
      by_cases h1 : 100 < k1.length
      · rw [bad fun h => by have := h.1; simp only at this; omega]
        repeat' (first | refine aw_seq ?_ | refine zz ?_ | refine zon fun _ => ?_ | refine zoa fun vr lr hr => ?_ | refine zoS (fun _ => ?_) (fun _ => ?_) | refine zqS (fun _ => ?_) (fun _ => ?_) | refine zwS (fun _ => ?_) (fun _ => ?_))
        exact fun w' hw => ⟨rfl, hw.below⟩
      by_cases h2 : 100 < k2.length
      · rw [bad fun h => by have := h.2.1; simp only at this; omega]
        repeat' (first | refine aw_seq ?_ | refine zz ?_ | refine zon fun _ => ?_ | refine zoa fun vr lr hr => ?_ | refine zoS (fun _ => ?_) (fun _ => ?_) | refine zqS (fun _ => ?_) (fun _ => ?_) | refine zwS (fun _ => ?_) (fun _ => ?_))
        exact fun w' hw => ⟨rfl, hw.below⟩
      by_cases h3 : 100 < k3.length
      · rw [bad fun h => by have := h.2.2; simp only at this; omega]
        repeat' (first | refine aw_seq ?_ | refine zz ?_ | refine zon fun _ => ?_ | refine zoa fun vr lr hr => ?_ | refine zoS (fun _ => ?_) (fun _ => ?_) | refine zqS (fun _ => ?_) (fun _ => ?_) | refine zwS (fun _ => ?_) (fun _ => ?_))
        exact fun w' hw => ⟨rfl, hw.below⟩
      · repeat' (first | refine aw_seq ?_ | refine zz ?_ | refine zon fun _ => ?_ | refine zoa fun vr lr hr => ?_ | refine zoS (fun _ => ?_) (fun _ => ?_) | refine zqS (fun _ => ?_) (fun _ => ?_) | refine zwS (fun _ => ?_) (fun _ => ?_))
        exact lq_normal' ⟨i + 1, rfl, by omega, fun j z hj hz => by
          by_cases e1 : j = i
          · subst e1; rw [he] at hz; cases hz; exact ⟨by simp only; omega, by simp only; omega, by simp only; omega⟩
          · exact hall j z (by omega) hz, rfl, rfl⟩ (by omega) (by repeat (first | exact sub_nil | refine sub_cons rfl ?_)) hsub_a
    · obtain rfl : i = l.length := by omega
      rw [show fitA l = true by
        unfold fitA
        rw [decide_eq_true h60, Bool.true_and]
        exact List.all_eq_true.2 fun e he => by
          obtain ⟨j, hj⟩ := List.getElem?_of_mem he
          exact decide_eq_true (hall j e (List.getElem?_eq_some_iff.1 hj).1 hj)]
      repeat' (first | refine aw_seq ?_ | refine zz ?_ | refine zon fun _ => ?_ | refine zoa fun vr lr hr => ?_ | refine zoS (fun _ => ?_) (fun _ => ?_) | refine zqS (fun _ => ?_) (fun _ => ?_) | refine zwS (fun _ => ?_) (fun _ => ?_))
      exact fun w' hw => ⟨rfl, hw.below⟩
  · rw [show fitA l = false by unfold fitA; rw [decide_eq_false h60]; rfl]
    repeat' (first | refine aw_seq ?_ | refine zz ?_ | refine zon fun _ => ?_ | refine zoa fun vr lr hr => ?_ | refine zoS (fun _ => ?_) (fun _ => ?_) | refine zqS (fun _ => ?_) (fun _ => ?_) | refine zwS (fun _ => ?_) (fun _ => ?_))
    exact fun w' hw => ⟨rfl, hw.below⟩
theorem FitF.new : FitF .new := ⟨WfF.new, by show (0 : Nat) ≤ 200; omega, fun e h => by cases h⟩
theorem setF_mem {f : Fd} {i : Nat} {v : Int} {e : Kt × Int} (h : e ∈ (setF f i v).es) : ∃ x ∈ f.es, x.1 = e.1 := by
  obtain ⟨j, hj⟩ := List.getElem?_of_mem h
  rw [setF_get] at hj
  split at hj
  · cases hg : f.es[j]? with
    | none => rw [hg] at hj; cases hj
    | some x => rw [hg] at hj; cases hj; exact ⟨x, List.mem_of_getElem? hg, rfl⟩
  · exact ⟨e, List.mem_of_getElem? hj, rfl⟩
theorem fit_doF {f : Fd} (h : FitF f) (hl : f.es.length < 200) (kind : Int) {k : Kt} (hk : fitK k) (n : Int) : FitF (doF f kind k n).2 := by
  obtain ⟨h1, h2⟩ := do_wf h.wf kind k n
  refine ⟨h1, by omega, fun e he => ?_⟩
  have hset : ∀ i v, e ∈ (setF f i v).es → fitK e.1 := fun i v he => by
    obtain ⟨x, hx, hxe⟩ := setF_mem he
    rw [← hxe]
    exact h.ks x hx
  unfold doF at he
  split at he
  · rcases List.mem_append.1 he with he | he
    · exact h.ks e he
    · rw [List.mem_singleton.1 he]; exact hk
  split at he
  · rcases drop_cases f n with ⟨e1, -⟩ | ⟨-, -, e1⟩ | ⟨-, -, e1⟩ <;> rw [e1] at he
    · exact h.ks e he
    · exact h.ks e he
    · exact hset _ _ he
  split at he
  · rcases cover_cases f n with e1 | ⟨-, -, -, e1⟩ | ⟨-, -, -, e1⟩ <;> rw [e1] at he <;> exact h.ks e he
  · rcases tell_cases f n with ⟨e1, -⟩ | ⟨x, -, -, ⟨-, e1⟩ | ⟨-, -, e1⟩ | ⟨-, -, e1⟩⟩ <;> rw [e1] at he
    · exact h.ks e he
    · exact h.ks e he
    · exact h.ks e he
    · exact hset _ _ he
theorem mod7 (k : Int) : k % 7 = 0 ∨ k % 7 = 1 ∨ k % 7 = 2 ∨ k % 7 = 3 ∨ k % 7 = 4 ∨ k % 7 = 5 ∨ k % 7 = 6 := by omega
theorem do_01 {f : Fd} {kind : Int} {k : Kt} {n : Int} (h : kind % 7 = 0 ∨ kind % 7 = 1) : doF f kind k n = (0, growF f k) := by unfold doF; rw [if_pos h]
theorem do_5 {f : Fd} {kind : Int} {k : Kt} {n : Int} (h : kind % 7 = 5) : doF f kind k n = dropF f n := by unfold doF; rw [if_neg (by omega), if_pos h]
theorem do_6 {f : Fd} {kind : Int} {k : Kt} {n : Int} (h : kind % 7 = 6) : doF f kind k n = coverF f n := by unfold doF; rw [if_neg (by omega), if_neg (by omega), if_pos h]
theorem do_234 {f : Fd} {kind : Int} {k : Kt} {n : Int} (h : kind % 7 = 2 ∨ kind % 7 = 3 ∨ kind % 7 = 4) : doF f kind k n = tellF f n := by unfold doF; rw [if_neg (by omega), if_neg (by omega), if_neg (by omega)]
theorem ov_rem7 {P : Program} {E : Env} {t : Tm} {H : Hp} {ty xt yt : TypeId} {x y : Operand} {k : IntKind} {p r : Int} (h0 : 0 ≤ p) (hr : p % 7 = r) (hx : ev t x = some (.int k p)) (hy : ev t y = some (.int k 7)) : OpV P E (.binOp .rem xt x y yt) ty t H (.int k r) := by
  have := ov_rem_in (P := P) (E := E) (t := t) (H := H) (ty := ty) (xt := xt) (yt := yt) hx hy ⟨h0, by decide⟩
  rwa [hr] at this
set_option maxHeartbeats 16000000 in
theorem ldo_ok {m : Nat} {w0 : World} {f : Fd} {g : Nat} {l : Hp} (h : LFd f g l) (hf : FitF f) (a : Ac) (h0 : 0 ≤ a.kind) (hk : fitK a.k) (R : Hp) :
    CallsH Try.prog ⟨w0.heap.size, w0, m⟩ 9 [.pointer (some ⟨g, 0, none⟩), AV a] (l ++ R) (LDid g (doF f a.kind a.k a.n) R) := by
  obtain ⟨kind, k, n⟩ := a
  simp only at h0 hk ⊢
  have hG := fun m R => lgrow_ok (m := m) (w0 := w0) h hf k hk R
  have hT := fun m R => ltell_ok (m := m) (w0 := w0) h hf n R
  have hD := fun m R => ldrop_ok (m := m) (w0 := w0) h hf n R
  have hC := fun m R => lcover_ok (m := m) (w0 := w0) h hf n R
  refine callsH1p (args := [.pointer (some ⟨g, 0, none⟩), AV ⟨kind, k, n⟩]) Try.func9 rfl rfl rfl rfl ?_
  rcases mod7 kind with h7 | h7 | h7 | h7 | h7 | h7 | h7
  · rw [do_01 (.inl h7)]
    repeat' (first | refine aw_seq ?_ | ((first | apply ao_val | apply aq_val); exact wants_a; (first | exact ov_rem7 h0 h7 rfl rfl | exact ov_a); (exact rfl)) | refine zy ?_ | refine zon fun _ => ?_ | refine zoa fun vr lr hr => ?_ | ((apply ao_callH (l := l); exact wants_a; (exact oc_func rfl); (exact rfl); (exact Cut.skip _ Cut.here); (exact hG _ _); rintro _ _ ⟨rfl, l2, rfl, hL2⟩)) | refine zoS (fun _ => ?_) (fun _ => ?_) | refine zqS (fun _ => ?_) (fun _ => ?_) | refine zwS (fun _ => ?_) (fun _ => ?_))
    exact ⟨l2 ++ R, _, hsub_a, List.Perm.refl _, rfl, l2, rfl, hL2⟩
  · rw [do_01 (.inr h7)]
    repeat' (first | refine aw_seq ?_ | ((first | apply ao_val | apply aq_val); exact wants_a; (first | exact ov_rem7 h0 h7 rfl rfl | exact ov_a); (exact rfl)) | refine zy ?_ | refine zon fun _ => ?_ | refine zoa fun vr lr hr => ?_ | ((apply ao_callH (l := l); exact wants_a; (exact oc_func rfl); (exact rfl); (exact Cut.skip _ Cut.here); (exact hG _ _); rintro _ _ ⟨rfl, l2, rfl, hL2⟩)) | refine zoS (fun _ => ?_) (fun _ => ?_) | refine zqS (fun _ => ?_) (fun _ => ?_) | refine zwS (fun _ => ?_) (fun _ => ?_))
    exact ⟨l2 ++ R, _, hsub_a, List.Perm.refl _, rfl, l2, rfl, hL2⟩
  · rw [do_234 (.inl h7)]
    repeat' (first | refine aw_seq ?_ | ((first | apply ao_val | apply aq_val); exact wants_a; (first | exact ov_rem7 h0 h7 rfl rfl | exact ov_a); (exact rfl)) | refine zy ?_ | refine zon fun _ => ?_ | refine zoa fun vr lr hr => ?_ | ((apply ao_callH (l := l); exact wants_a; (exact oc_func rfl); (exact rfl); (exact Cut.skip _ Cut.here); (exact hT _ _); rintro _ _ ⟨rfl, l2, rfl, hL2⟩)) | refine zoS (fun _ => ?_) (fun _ => ?_) | refine zqS (fun _ => ?_) (fun _ => ?_) | refine zwS (fun _ => ?_) (fun _ => ?_))
    exact ⟨l2 ++ R, _, hsub_a, List.Perm.refl _, rfl, l2, rfl, hL2⟩
  · rw [do_234 (.inr (.inl h7))]
    repeat' (first | refine aw_seq ?_ | ((first | apply ao_val | apply aq_val); exact wants_a; (first | exact ov_rem7 h0 h7 rfl rfl | exact ov_a); (exact rfl)) | refine zy ?_ | refine zon fun _ => ?_ | refine zoa fun vr lr hr => ?_ | ((apply ao_callH (l := l); exact wants_a; (exact oc_func rfl); (exact rfl); (exact Cut.skip _ Cut.here); (exact hT _ _); rintro _ _ ⟨rfl, l2, rfl, hL2⟩)) | refine zoS (fun _ => ?_) (fun _ => ?_) | refine zqS (fun _ => ?_) (fun _ => ?_) | refine zwS (fun _ => ?_) (fun _ => ?_))
    exact ⟨l2 ++ R, _, hsub_a, List.Perm.refl _, rfl, l2, rfl, hL2⟩
  · rw [do_234 (.inr (.inr h7))]
    repeat' (first | refine aw_seq ?_ | ((first | apply ao_val | apply aq_val); exact wants_a; (first | exact ov_rem7 h0 h7 rfl rfl | exact ov_a); (exact rfl)) | refine zy ?_ | refine zon fun _ => ?_ | refine zoa fun vr lr hr => ?_ | ((apply ao_callH (l := l); exact wants_a; (exact oc_func rfl); (exact rfl); (exact Cut.skip _ Cut.here); (exact hT _ _); rintro _ _ ⟨rfl, l2, rfl, hL2⟩)) | refine zoS (fun _ => ?_) (fun _ => ?_) | refine zqS (fun _ => ?_) (fun _ => ?_) | refine zwS (fun _ => ?_) (fun _ => ?_))
    exact ⟨l2 ++ R, _, hsub_a, List.Perm.refl _, rfl, l2, rfl, hL2⟩
  · rw [do_5 h7]
    repeat' (first | refine aw_seq ?_ | ((first | apply ao_val | apply aq_val); exact wants_a; (first | exact ov_rem7 h0 h7 rfl rfl | exact ov_a); (exact rfl)) | refine zy ?_ | refine zon fun _ => ?_ | refine zoa fun vr lr hr => ?_ | ((apply ao_callH (l := l); exact wants_a; (exact oc_func rfl); (exact rfl); (exact Cut.skip _ Cut.here); (exact hD _ _); rintro _ _ ⟨rfl, l2, rfl, hL2⟩)) | refine zoS (fun _ => ?_) (fun _ => ?_) | refine zqS (fun _ => ?_) (fun _ => ?_) | refine zwS (fun _ => ?_) (fun _ => ?_))
    exact ⟨l2 ++ R, _, hsub_a, List.Perm.refl _, rfl, l2, rfl, hL2⟩
  · rw [do_6 h7]
    repeat' (first | refine aw_seq ?_ | ((first | apply ao_val | apply aq_val); exact wants_a; (first | exact ov_rem7 h0 h7 rfl rfl | exact ov_a); (exact rfl)) | refine zy ?_ | refine zon fun _ => ?_ | refine zoa fun vr lr hr => ?_ | ((apply ao_callH (l := l); exact wants_a; (exact oc_func rfl); (exact rfl); (exact Cut.skip _ Cut.here); (exact hC _ _); rintro _ _ ⟨rfl, l2, rfl, hL2⟩)) | refine zoS (fun _ => ?_) (fun _ => ?_) | refine zqS (fun _ => ?_) (fun _ => ?_) | refine zwS (fun _ => ?_) (fun _ => ?_))
    exact ⟨l2 ++ R, _, hsub_a, List.Perm.refl _, rfl, l2, rfl, hL2⟩
set_option maxHeartbeats 16000000 in
theorem rwant_ok {m : Nat} {w0 : World} {f : Fd} {g : Nat} {l : Hp} (h : RFd g f l) (hl : f.es.length ≤ 1000) (a : Ac) (h0 : 0 ≤ a.kind) (R : Hp) :
    CallsH Try.prog ⟨w0.heap.size, w0, m⟩ 10 [.pointer (some ⟨g, 0, none⟩), AV a] (l ++ R) (RDid g (doF f a.kind a.k a.n) R) := by
  obtain ⟨kind, k, n⟩ := a
  simp only at h0 ⊢
  have hG := fun m R => rgrow_ok (m := m) (w0 := w0) h hl k R
  have hT := fun m R => rtell_ok (m := m) (w0 := w0) h hl n R
  have hD := fun m R => rdrop_ok (m := m) (w0 := w0) h hl n R
  have hC := fun m R => rcover_ok (m := m) (w0 := w0) h n R
  refine callsH1p (args := [.pointer (some ⟨g, 0, none⟩), AV ⟨kind, k, n⟩]) Try.func10 rfl rfl rfl rfl ?_
  rcases mod7 kind with h7 | h7 | h7 | h7 | h7 | h7 | h7
  · rw [do_01 (.inl h7)]
    repeat' (first | refine aw_seq ?_ | ((first | apply ao_val | apply aq_val); exact wants_a; (first | exact ov_rem7 h0 h7 rfl rfl | exact ov_a); (exact rfl)) | refine zy ?_ | refine zon fun _ => ?_ | refine zoa fun vr lr hr => ?_ | ((apply ao_callH (l := l); exact wants_a; (exact oc_func rfl); (exact rfl); (exact Cut.skip _ Cut.here); (exact hG _ _); rintro _ _ ⟨rfl, l2, rfl, hL2⟩)) | refine zoS (fun _ => ?_) (fun _ => ?_) | refine zqS (fun _ => ?_) (fun _ => ?_) | refine zwS (fun _ => ?_) (fun _ => ?_))
    exact ⟨l2 ++ R, _, hsub_a, List.Perm.refl _, rfl, l2, rfl, hL2⟩
  · rw [do_01 (.inr h7)]
    repeat' (first | refine aw_seq ?_ | ((first | apply ao_val | apply aq_val); exact wants_a; (first | exact ov_rem7 h0 h7 rfl rfl | exact ov_a); (exact rfl)) | refine zy ?_ | refine zon fun _ => ?_ | refine zoa fun vr lr hr => ?_ | ((apply ao_callH (l := l); exact wants_a; (exact oc_func rfl); (exact rfl); (exact Cut.skip _ Cut.here); (exact hG _ _); rintro _ _ ⟨rfl, l2, rfl, hL2⟩)) | refine zoS (fun _ => ?_) (fun _ => ?_) | refine zqS (fun _ => ?_) (fun _ => ?_) | refine zwS (fun _ => ?_) (fun _ => ?_))
    exact ⟨l2 ++ R, _, hsub_a, List.Perm.refl _, rfl, l2, rfl, hL2⟩
  · rw [do_234 (.inl h7)]
    repeat' (first | refine aw_seq ?_ | ((first | apply ao_val | apply aq_val); exact wants_a; (first | exact ov_rem7 h0 h7 rfl rfl | exact ov_a); (exact rfl)) | refine zy ?_ | refine zon fun _ => ?_ | refine zoa fun vr lr hr => ?_ | ((apply ao_callH (l := l); exact wants_a; (exact oc_func rfl); (exact rfl); (exact Cut.skip _ Cut.here); (exact hT _ _); rintro _ _ ⟨rfl, l2, rfl, hL2⟩)) | refine zoS (fun _ => ?_) (fun _ => ?_) | refine zqS (fun _ => ?_) (fun _ => ?_) | refine zwS (fun _ => ?_) (fun _ => ?_))
    exact ⟨l2 ++ R, _, hsub_a, List.Perm.refl _, rfl, l2, rfl, hL2⟩
  · rw [do_234 (.inr (.inl h7))]
    repeat' (first | refine aw_seq ?_ | ((first | apply ao_val | apply aq_val); exact wants_a; (first | exact ov_rem7 h0 h7 rfl rfl | exact ov_a); (exact rfl)) | refine zy ?_ | refine zon fun _ => ?_ | refine zoa fun vr lr hr => ?_ | ((apply ao_callH (l := l); exact wants_a; (exact oc_func rfl); (exact rfl); (exact Cut.skip _ Cut.here); (exact hT _ _); rintro _ _ ⟨rfl, l2, rfl, hL2⟩)) | refine zoS (fun _ => ?_) (fun _ => ?_) | refine zqS (fun _ => ?_) (fun _ => ?_) | refine zwS (fun _ => ?_) (fun _ => ?_))
    exact ⟨l2 ++ R, _, hsub_a, List.Perm.refl _, rfl, l2, rfl, hL2⟩
  · rw [do_234 (.inr (.inr h7))]
    repeat' (first | refine aw_seq ?_ | ((first | apply ao_val | apply aq_val); exact wants_a; (first | exact ov_rem7 h0 h7 rfl rfl | exact ov_a); (exact rfl)) | refine zy ?_ | refine zon fun _ => ?_ | refine zoa fun vr lr hr => ?_ | ((apply ao_callH (l := l); exact wants_a; (exact oc_func rfl); (exact rfl); (exact Cut.skip _ Cut.here); (exact hT _ _); rintro _ _ ⟨rfl, l2, rfl, hL2⟩)) | refine zoS (fun _ => ?_) (fun _ => ?_) | refine zqS (fun _ => ?_) (fun _ => ?_) | refine zwS (fun _ => ?_) (fun _ => ?_))
    exact ⟨l2 ++ R, _, hsub_a, List.Perm.refl _, rfl, l2, rfl, hL2⟩
  · rw [do_5 h7]
    repeat' (first | refine aw_seq ?_ | ((first | apply ao_val | apply aq_val); exact wants_a; (first | exact ov_rem7 h0 h7 rfl rfl | exact ov_a); (exact rfl)) | refine zy ?_ | refine zon fun _ => ?_ | refine zoa fun vr lr hr => ?_ | ((apply ao_callH (l := l); exact wants_a; (exact oc_func rfl); (exact rfl); (exact Cut.skip _ Cut.here); (exact hD _ _); rintro _ _ ⟨rfl, l2, rfl, hL2⟩)) | refine zoS (fun _ => ?_) (fun _ => ?_) | refine zqS (fun _ => ?_) (fun _ => ?_) | refine zwS (fun _ => ?_) (fun _ => ?_))
    exact ⟨l2 ++ R, _, hsub_a, List.Perm.refl _, rfl, l2, rfl, hL2⟩
  · rw [do_6 h7]
    repeat' (first | refine aw_seq ?_ | ((first | apply ao_val | apply aq_val); exact wants_a; (first | exact ov_rem7 h0 h7 rfl rfl | exact ov_a); (exact rfl)) | refine zy ?_ | refine zon fun _ => ?_ | refine zoa fun vr lr hr => ?_ | ((apply ao_callH (l := l); exact wants_a; (exact oc_func rfl); (exact rfl); (exact Cut.skip _ Cut.here); (exact hC _ _); rintro _ _ ⟨rfl, l2, rfl, hL2⟩)) | refine zoS (fun _ => ?_) (fun _ => ?_) | refine zqS (fun _ => ?_) (fun _ => ?_) | refine zwS (fun _ => ?_) (fun _ => ?_))
    exact ⟨l2 ++ R, _, hsub_a, List.Perm.refl _, rfl, l2, rfl, hL2⟩
end Fdt
end Go.Proofs.Ytpenogailhlcaaa
