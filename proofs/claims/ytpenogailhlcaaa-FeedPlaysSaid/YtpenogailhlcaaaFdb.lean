/- The document's answer for layer 10: a feed in a world; what is settled, Safe, Settled, Open, Ints; conditions: at most 1,000 events. -/
import Derived.Test.YtpenogailhlcaaaFda
import Derived.Test.YtpenogailhlcaaaSxy
import Derived.Test.YtpenogailhlcaaaTy
import Derived.Test.YtpenogailhlcaaaFrame
namespace Go.Proofs.Ytpenogailhlcaaa
namespace Fdt
open Go Go.RowKit Sx
attribute [local irreducible] Go.Calls

theorem ov_nilcheck {P : Program} {E : Env} {t : Tm} {H : Hp} {ty : TypeId} {x : Operand} {a : Addr} (hx : ev t x = some (.pointer (some a))) : OpV P E (.nilCheck x) ty t H (.pointer (some a)) := by
  refine ov_of fun b w ht _ o ho _ => ⟨pure (.pointer (some a)), ?_, rfl⟩
  simp only [execOp, ho, ev_eval ht hx]
  rfl
theorem key_eq (a b : Kt) : eqAll [S a.1, S a.2.1, S a.2.2] [S b.1, S b.2.1, S b.2.2] = decide (a = b) := by
  obtain ⟨a1, a2, a3⟩ := a
  obtain ⟨b1, b2, b3⟩ := b
  rw [Bool.eq_iff_iff]
  simp [eqAll, eqB]
def cellsK (e : Kt × Int) : List Value := [S e.1.1, S e.1.2.1, S e.1.2.2]
def cellsI (e : Kt × Int) : List Value := [I e.2]
theorem cellsK_len (e : Kt × Int) : (cellsK e).length = 3 := rfl
theorem cellsI_len (e : Kt × Int) : (cellsI e).length = 1 := rfl
instance : TyPtr Try.prog 27 31 := ⟨by kernel_rfl⟩
/-- The document's feed as a world has it. -/
structure RAt (w : World) (g : Nat) (f : Fd) (vK vI : Value) : Prop where
  lt : g < w.heap.size
  c0 : w.cell? ⟨g, 0, none⟩ = some vK
  c1 : w.cell? ⟨g, 1, none⟩ = some vI
  c2 : w.cell? ⟨g, 2, none⟩ = some (I f.cov)
  ks : OldRow w 3 vK f.es.length (f.es.flatMap cellsK)
  is : OldRow w 1 vI f.es.length (f.es.flatMap cellsI)
theorem RAt.below {w w' : World} {g : Nat} {f : Fd} {vK vI : Value} (h : RAt w g f vK vI) (hb : Below w.heap.size w w') : RAt w' g f vK vI :=
  ⟨Nat.lt_of_lt_of_le h.lt hb.size, (hb.cell h.lt).trans h.c0, (hb.cell h.lt).trans h.c1, (hb.cell h.lt).trans h.c2, OldRow.below h.ks hb, OldRow.below h.is hb⟩
theorem stB_at {f : Fd} {i : Nat} {k : Kt} {is : Int} (h : f.es[i]? = some (k, is)) : stB f i = (decide (is = 1) || decide ((i : Int) + 1 ≤ f.cov)) := by unfold stB; rw [h]
theorem opB_at {f : Fd} {i : Nat} {k : Kt} {is : Int} (h : f.es[i]? = some (k, is)) : opB f i = (decide (is = 0) && !(stB f i)) := by unfold opB; rw [h]
set_option maxHeartbeats 8000000 in
theorem rsettled_ok {w : World} {g : Nat} {f : Fd} {vK vI : Value} (h : RAt w g f vK vI) (hl : f.es.length ≤ 1000) (i : Nat) (hi : i < f.es.length) :
    Calls Try.prog 29 #[.pointer (some ⟨g, 0, none⟩), I i] w fun e w' => e = .returned (.bool (stB f i)) ∧ Below w.heap.size w w' := by
  obtain ⟨lt, c0, c1, c2, hK, hI⟩ := h
  obtain ⟨a, cp, rfl, hat⟩ := OldRow.cells cellsI_len hI
  obtain ⟨⟨k, is⟩, he⟩ := getP hi
  obtain ⟨g1, o1, rfl, hg, hc⟩ := hat i _ (i : Int) he rfl
  have c3 : w.cell? ⟨g1, o1 + (i : Int).toNat * 1, none⟩ = some (I is) := hc 0 _ rfl
  refine calls1 (args := [.pointer (some ⟨g, 0, none⟩), I i]) Try.func29 rfl rfl rfl rfl ?_
  rw [stB_at he]
  by_cases h1 : is = 1
  · rw [decide_eq_true h1]
    repeat' (first | refine aw_seq ?_ | ((first | apply ao_val | apply aq_val); exact wants_a; (first | exact ov_nilcheck rfl | exact ov_a); (exact rfl)) | refine zy ?_ | refine zon fun _ => ?_ | refine zoa fun vr lr hr => ?_ | refine zoS (fun _ => ?_) (fun _ => ?_) | refine zqS (fun _ => ?_) (fun _ => ?_) | refine zwS (fun _ => ?_) (fun _ => ?_))
    exact fun w' hw => ⟨rfl, hw.below⟩
  · rw [decide_eq_false h1]
    repeat' (first | refine aw_seq ?_ | ((first | apply ao_val | apply aq_val); exact wants_a; (first | exact ov_nilcheck rfl | exact ov_a); (exact rfl)) | refine zy ?_ | refine zon fun _ => ?_ | refine zoa fun vr lr hr => ?_ | refine zoS (fun _ => ?_) (fun _ => ?_) | refine zqS (fun _ => ?_) (fun _ => ?_) | refine zwS (fun _ => ?_) (fun _ => ?_))
    exact fun w' hw => ⟨by rw [Bool.false_or], hw.below⟩
theorem safe_t {f : Fd} {i : Nat} (h : i < f.es.length) (hs : stB f i = true) : safeL f (f.es.length - i) i = safeL f (f.es.length - (i + 1)) (i + 1) := by
  obtain ⟨q, hq⟩ : ∃ q, f.es.length - i = q + 1 := ⟨f.es.length - i - 1, by omega⟩
  rw [hq, safeL, if_pos hs, show f.es.length - (i + 1) = q by omega]
theorem safe_f {f : Fd} {i : Nat} (h : i < f.es.length) (hs : stB f i = false) : safeL f (f.es.length - i) i = i := by
  obtain ⟨q, hq⟩ : ∃ q, f.es.length - i = q + 1 := ⟨f.es.length - i - 1, by omega⟩
  rw [hq, safeL, if_neg (by rw [hs]; decide)]
theorem safe_0 {f : Fd} : safeL f (f.es.length - f.es.length) f.es.length = f.es.length := by rw [Nat.sub_self, safeL]
set_option maxHeartbeats 8000000 in
theorem rsafe_ok {w : World} {g : Nat} {f : Fd} {vK vI : Value} (h : RAt w g f vK vI) (hl : f.es.length ≤ 1000) :
    Calls Try.prog 16 #[.pointer (some ⟨g, 0, none⟩)] w fun e w' => e = .returned (I (safeF f)) ∧ Below w.heap.size w w' := by
  have hst := fun w' (hb : Below w.heap.size w w') i hi => rsettled_ok (h.below hb) hl i hi
  obtain ⟨lt, c0, c1, c2, hK, hI⟩ := h
  obtain ⟨a, cp, rfl, hat⟩ := OldRow.cells cellsK_len hK
  refine calls1 (args := [.pointer (some ⟨g, 0, none⟩)]) Try.func16 rfl rfl rfl rfl ?_
  repeat' (first | refine aw_seq ?_ | ((first | apply ao_val | apply aq_val); exact wants_a; (first | exact ov_nilcheck rfl | exact ov_a); (exact rfl)) | refine zy ?_ | refine zon fun _ => ?_ | refine zoa fun vr lr hr => ?_ | refine zoS (fun _ => ?_) (fun _ => ?_) | refine zqS (fun _ => ?_) (fun _ => ?_) | refine zwS (fun _ => ?_) (fun _ => ?_))
  refine aw_for (t0 := [(0, .pointer (some ⟨g, 0, none⟩)), (3, I (0 : Nat))]) (fun q t H => ∃ i : Nat, q = f.es.length - i ∧ i ≤ f.es.length ∧ safeL f (f.es.length - i) i = safeF f ∧ t = [(0, .pointer (some ⟨g, 0, none⟩)), (3, I i)] ∧ H = [])
    ⟨0, rfl, by omega, rfl, rfl, rfl⟩ (by repeat (first | exact sub_nil | refine sub_cons rfl ?_)) ?_
  rintro q t H ⟨i, rfl, hi, hs, rfl, rfl⟩
  by_cases hlt : i < f.es.length
  · have hsi := fun w' hw => hst w' hw i hlt
    cases hb : stB f i
    · rw [safe_f hlt hb] at hs
      rw [hb] at hsi
      repeat' (first | refine aw_seq ?_ | ((first | apply ao_val | apply aq_val); exact wants_a; (first | exact ov_nilcheck rfl | exact ov_a); (exact rfl)) | refine zy ?_ | refine zon fun _ => ?_ | refine zoa fun vr lr hr => ?_ | ((first | apply ao_call | apply aq_call); exact wants_a; (first | exact oc_func rfl | exact oc_clos rfl rfl | exact oc_bnd rfl rfl); (exact rfl); (first | exact fun w hw => hsi w hw.below)) | refine zoS (fun _ => ?_) (fun _ => ?_) | refine zqS (fun _ => ?_) (fun _ => ?_) | refine zwS (fun _ => ?_) (fun _ => ?_))
      exact fun w' hw => ⟨by rw [hs], hw.below⟩
    · rw [safe_t hlt hb] at hs
      rw [hb] at hsi
      repeat' (first | refine aw_seq ?_ | ((first | apply ao_val | apply aq_val); exact wants_a; (first | exact ov_nilcheck rfl | exact ov_a); (exact rfl)) | refine zy ?_ | refine zon fun _ => ?_ | refine zoa fun vr lr hr => ?_ | ((first | apply ao_call | apply aq_call); exact wants_a; (first | exact oc_func rfl | exact oc_clos rfl rfl | exact oc_bnd rfl rfl); (exact rfl); (first | exact fun w hw => hsi w hw.below)) | refine zoS (fun _ => ?_) (fun _ => ?_) | refine zqS (fun _ => ?_) (fun _ => ?_) | refine zwS (fun _ => ?_) (fun _ => ?_))
      exact lq_normal' ⟨i + 1, rfl, by omega, hs, rfl, rfl⟩ (by omega) (by repeat (first | exact sub_nil | refine sub_cons rfl ?_)) hsub_a
  · obtain rfl : i = f.es.length := by omega
    rw [safe_0] at hs
    repeat' (first | refine aw_seq ?_ | ((first | apply ao_val | apply aq_val); exact wants_a; (first | exact ov_nilcheck rfl | exact ov_a); (exact rfl)) | refine zy ?_ | refine zon fun _ => ?_ | refine zoa fun vr lr hr => ?_ | refine zoS (fun _ => ?_) (fun _ => ?_) | refine zqS (fun _ => ?_) (fun _ => ?_) | refine zwS (fun _ => ?_) (fun _ => ?_))
    exact fun w' hw => ⟨by rw [hs], hw.below⟩
theorem open_s (f : Fd) (i : Nat) : openL f (i + 1) = openL f i ++ (if opB f i = true then [i] else []) := by
  unfold openL
  rw [List.range_succ, List.filter_append]
  congr 1
  by_cases ho : opB f i = true
  · rw [if_pos ho, List.filter_cons, if_pos ho]; rfl
  · rw [if_neg ho, List.filter_cons, if_neg ho]; rfl
theorem open_len (f : Fd) (i : Nat) : (openL f i).length ≤ i := by
  unfold openL
  have := List.length_filter_le (fun i => opB f i) (List.range i)
  rw [List.length_range] at this
  exact this
abbrev nats (l : List Nat) : List Value := l.map fun (i : Nat) => I i
set_option maxHeartbeats 8000000 in
theorem ropen_ok {w : World} {g : Nat} {f : Fd} {vK vI : Value} (h : RAt w g f vK vI) (hl : f.es.length ≤ 1000) :
    Calls Try.prog 13 #[.pointer (some ⟨g, 0, none⟩)] w fun e w' => ∃ r, e = .returned r ∧ NewRow 3 1 w w' r (openF f).length (nats (openF f)) := by
  have hst := fun w' (hb : Below w.heap.size w w') i hi => rsettled_ok (h.below hb) hl i hi
  obtain ⟨lt, c0, c1, c2, hK, hI⟩ := h
  obtain ⟨a, cp, rfl, hat⟩ := OldRow.cells cellsK_len hK
  obtain ⟨a2, cp2, rfl, hat2⟩ := OldRow.cells cellsI_len hI
  refine calls1 (args := [.pointer (some ⟨g, 0, none⟩)]) Try.func13 rfl rfl rfl rfl ?_
  repeat' (first | refine aw_seq ?_ | ((first | apply ao_val | apply aq_val); exact wants_a; (first | exact ov_nilcheck rfl | exact ov_a); (exact rfl)) | refine zy ?_ | refine zon fun _ => ?_ | refine zoa fun vr lr hr => ?_ | refine zoS (fun _ => ?_) (fun _ => ?_) | refine zqS (fun _ => ?_) (fun _ => ?_) | refine zwS (fun _ => ?_) (fun _ => ?_))
  refine aw_for (t0 := [(0, .pointer (some ⟨g, 0, none⟩)), (3, .slice none 0 0), (4, I (0 : Nat))]) (fun q t H => ∃ (i : Nat) (v3 : Value) (l3 : Hp), q = f.es.length - i ∧ i ≤ f.es.length ∧ RowB 3 1 v3 l3 (openL f i).length (nats (openL f i)) ∧ t = [(0, .pointer (some ⟨g, 0, none⟩)), (3, v3), (4, I i)] ∧ H = l3 ++ [])
    ⟨0, _, [], rfl, by omega, RowB.nil, rfl, rfl⟩ (by repeat (first | exact sub_nil | refine sub_cons rfl ?_)) ?_
  rintro q t H ⟨i, v3, l3, rfl, hi, r3, rfl, rfl⟩
  have hln := open_len f i
  obtain ⟨a3, c3, hv3⟩ := r3.len
  subst hv3
  by_cases hlt : i < f.es.length
  · obtain ⟨⟨k, is⟩, he⟩ := getP hlt
    obtain ⟨g1, o1, rfl, hg, hc⟩ := hat2 i _ (i : Int) he rfl
    have cI : w.cell? ⟨g1, o1 + (i : Int).toNat * 1, none⟩ = some (I is) := hc 0 _ rfl
    have hsi := fun w' hw => hst w' hw i hlt
    have hnx := open_s f i
    have hob := opB_at he
    generalize stB f i = sB at hsi hob
    by_cases h0 : is = 0
    · subst h0
      rw [decide_eq_true rfl, Bool.true_and] at hob
      cases sB
      · rw [show (!false) = true from rfl] at hob
        rw [hob, if_pos rfl] at hnx
        repeat' (first | refine aw_seq ?_ | ((first | apply ao_val | apply aq_val); exact wants_a; (first | exact ov_nilcheck rfl | exact ov_a); (exact rfl)) | refine zy ?_ | refine zon fun _ => ?_ | refine zoa fun vr lr hr => ?_ | ((first | apply ao_call | apply aq_call); exact wants_a; (first | exact oc_func rfl | exact oc_clos rfl rfl | exact oc_bnd rfl rfl); (exact rfl); (first | exact fun w hw => hsi w hw.below)) | refine zoS (fun _ => ?_) (fun _ => ?_) | refine zqS (fun _ => ?_) (fun _ => ?_) | refine zwS (fun _ => ?_) (fun _ => ?_))
        exact lq_normal' ⟨i + 1, _, _, rfl, by omega, by rw [hnx, List.length_append, nats, List.map_append]; exact hr, rfl, rfl⟩ (by omega) (by repeat (first | exact sub_nil | refine sub_cons rfl ?_)) hsub_a
      · rw [hob, if_neg (by decide), List.append_nil] at hnx
        repeat' (first | refine aw_seq ?_ | ((first | apply ao_val | apply aq_val); exact wants_a; (first | exact ov_nilcheck rfl | exact ov_a); (exact rfl)) | refine zy ?_ | refine zon fun _ => ?_ | refine zoa fun vr lr hr => ?_ | ((first | apply ao_call | apply aq_call); exact wants_a; (first | exact oc_func rfl | exact oc_clos rfl rfl | exact oc_bnd rfl rfl); (exact rfl); (first | exact fun w hw => hsi w hw.below)) | refine zoS (fun _ => ?_) (fun _ => ?_) | refine zqS (fun _ => ?_) (fun _ => ?_) | refine zwS (fun _ => ?_) (fun _ => ?_))
        exact lq_normal' ⟨i + 1, _, _, rfl, by omega, by rw [hnx]; exact r3, rfl, rfl⟩ (by omega) (by repeat (first | exact sub_nil | refine sub_cons rfl ?_)) hsub_a
    · rw [decide_eq_false h0, Bool.false_and] at hob
      rw [hob, if_neg (by decide), List.append_nil] at hnx
      have e0 : (is == 0) = false := beq_eq_false_iff_ne.2 h0
      repeat' (first | refine aw_seq ?_ | ((first | apply ao_val | apply aq_val); exact wants_a; (first | exact ov_nilcheck rfl | exact ov_a); (exact rfl)) | refine zy ?_ | refine zon fun _ => ?_ | refine zoa fun vr lr hr => ?_ | ((first | apply ao_call | apply aq_call); exact wants_a; (first | exact oc_func rfl | exact oc_clos rfl rfl | exact oc_bnd rfl rfl); (exact rfl); (first | exact fun w hw => hsi w hw.below)) | refine zoS (fun _ => ?_) (fun _ => ?_) | refine zqS (fun _ => ?_) (fun _ => ?_) | refine zwS (fun _ => ?_) (fun _ => ?_))
      exact lq_normal' ⟨i + 1, _, _, rfl, by omega, by rw [hnx]; exact r3, rfl, rfl⟩ (by omega) (by repeat (first | exact sub_nil | refine sub_cons rfl ?_)) hsub_a
  · obtain rfl : i = f.es.length := by omega
    repeat' (first | refine aw_seq ?_ | ((first | apply ao_val | apply aq_val); exact wants_a; (first | exact ov_nilcheck rfl | exact ov_a); (exact rfl)) | refine zy ?_ | refine zon fun _ => ?_ | refine zoa fun vr lr hr => ?_ | refine zoS (fun _ => ?_) (fun _ => ?_) | refine zqS (fun _ => ?_) (fun _ => ?_) | refine zwS (fun _ => ?_) (fun _ => ?_))
    exact fun w' hw => ⟨_, rfl, hw.below, _, r3, fun b o hm => hw.at_ b o (List.mem_append_left _ hm)⟩
theorem last_0 (f : Fd) (i : Nat) {e : Kt × Int} (h : f.es[i]? = some e) : lastB f i (i + 1) = true := by
  unfold lastB
  rw [h]
  simp only
  rw [List.drop_eq_nil_of_le (by rw [List.length_take]; omega)]
  rfl
theorem last_s {f : Fd} {i k : Nat} {e x : Kt × Int} (h : f.es[i]? = some e) (hk : i + 1 ≤ k) (hx : f.es[k]? = some x) : lastB f i (k + 1) = (lastB f i k && decide (x.1 ≠ e.1)) := by
  unfold lastB
  rw [h]
  simp only
  have hlt := (List.getElem?_eq_some_iff.1 hx).1
  rw [List.take_add_one, hx, List.drop_append_of_le_length (by rw [List.length_take]; omega), List.all_append]
  simp
theorem done_s (f : Fd) (n : Nat) : doneF f (n + 1) = (doneF f n && (!(lastB f n f.es.length) || stB f n)) := by
  unfold doneF
  rw [List.range_succ, List.all_append]
  simp
theorem done_false {f : Fd} {i n : Nat} (hi : i < n) (h1 : lastB f i f.es.length = true) (h2 : stB f i = false) : doneF f n = false := by
  unfold doneF
  rw [List.all_eq_false]
  exact ⟨i, List.mem_range.2 hi, by rw [h1, h2]; decide⟩
set_option maxHeartbeats 16000000 in
theorem rdone_ok {w : World} {g : Nat} {f : Fd} {vK vI : Value} (h : RAt w g f vK vI) (hl : f.es.length ≤ 1000) :
    Calls Try.prog 18 #[.pointer (some ⟨g, 0, none⟩)] w fun e w' => e = .returned (.bool (settledF f)) ∧ Below w.heap.size w w' := by
  have hst := fun w' (hb : Below w.heap.size w w') i hi => rsettled_ok (h.below hb) hl i hi
  obtain ⟨lt, c0, c1, c2, hK, hI⟩ := h
  obtain ⟨a, cp, rfl, hat⟩ := OldRow.cells cellsK_len hK
  refine calls1 (args := [.pointer (some ⟨g, 0, none⟩)]) Try.func18 rfl rfl rfl rfl ?_
  repeat' (first | refine aw_seq ?_ | ((first | apply ao_val | apply aq_val); exact wants_a; (first | exact ov_nilcheck rfl | exact ov_a); (exact rfl)) | refine zy ?_ | refine zon fun _ => ?_ | refine zoa fun vr lr hr => ?_ | refine zoS (fun _ => ?_) (fun _ => ?_) | refine zqS (fun _ => ?_) (fun _ => ?_) | refine zwS (fun _ => ?_) (fun _ => ?_))
  refine aw_for (t0 := [(0, .pointer (some ⟨g, 0, none⟩)), (3, I (0 : Nat))]) (fun q t H => ∃ i : Nat, q = f.es.length - i ∧ i ≤ f.es.length ∧ doneF f i = true ∧ t = [(0, .pointer (some ⟨g, 0, none⟩)), (3, I i)] ∧ H = [])
    ⟨0, rfl, by omega, rfl, rfl, rfl⟩ (by repeat (first | exact sub_nil | refine sub_cons rfl ?_)) ?_
  rintro q t H ⟨i, rfl, hi, hd, rfl, rfl⟩
  by_cases hlt : i < f.es.length
  · obtain ⟨⟨k, is⟩, he⟩ := getP hlt
    obtain ⟨g1, o1, rfl, hg, hc⟩ := hat i _ (i : Int) he rfl
    have cA : ∀ (j : Nat) z, [S k.1, S k.2.1, S k.2.2][j]? = some z → w.cell? ⟨g1, o1 + (i : Int).toNat * 3 + j, none⟩ = some z := hc
    have hsi := fun w' hw => hst w' hw i hlt
    have hds := done_s f i
    repeat' (first | refine aw_seq ?_ | ((first | apply ao_val | apply aq_val); exact wants_a; (first | exact ov_nilcheck rfl | exact ov_a); (exact rfl)) | refine zy ?_ | refine zon fun _ => ?_ | refine zoa fun vr lr hr => ?_ | refine zoS (fun _ => ?_) (fun _ => ?_) | refine zqS (fun _ => ?_) (fun _ => ?_) | refine zwS (fun _ => ?_) (fun _ => ?_))
    refine aw_for (t0 := [(0, .pointer (some ⟨g, 0, none⟩)), (3, I i), (4, .bool true), (5, I (i + 1 : Nat))]) (fun q t H => ∃ (m : Nat) (b : Bool), q = f.es.length - m ∧ i + 1 ≤ m ∧ m ≤ f.es.length ∧ b = lastB f i m ∧ t = [(0, .pointer (some ⟨g, 0, none⟩)), (3, I i), (4, .bool b), (5, I m)] ∧ H = [])
      ⟨i + 1, true, rfl, Nat.le_refl _, by omega, (last_0 f i he).symm, rfl, rfl⟩ (by repeat (first | exact sub_nil | refine sub_cons rfl ?_)) ?_
    rintro q t H ⟨m, b, rfl, him, hm, hb, rfl, rfl⟩
    by_cases hml : m < f.es.length
    · obtain ⟨⟨k2, is2⟩, hx⟩ := getP hml
      obtain ⟨g2, o2, e2, -, hc2⟩ := hat m _ (m : Int) hx rfl
      cases e2
      have cB : ∀ (j : Nat) z, [S k2.1, S k2.2.1, S k2.2.2][j]? = some z → w.cell? ⟨g1, o1 + (m : Int).toNat * 3 + j, none⟩ = some z := hc2
      have hke := key_eq k2 k
      have hs := last_s he him hx
      simp only at hs
      cases b
      · repeat' (first | refine aw_seq ?_ | ((first | apply ao_val | apply aq_val); exact wants_a; (first | exact ov_nilcheck rfl | exact ov_a); (exact rfl)) | refine zy ?_ | refine zon fun _ => ?_ | refine zoa fun vr lr hr => ?_ | refine zoS (fun _ => ?_) (fun _ => ?_) | refine zqS (fun _ => ?_) (fun _ => ?_) | refine zwS (fun _ => ?_) (fun _ => ?_))
        exact lq_normal' ⟨m + 1, false, rfl, by omega, by omega, by rw [hs, ← hb]; rfl, rfl, rfl⟩ (by omega) (by repeat (first | exact sub_nil | refine sub_cons rfl ?_)) hsub_a
      · repeat' (first | refine aw_seq ?_ | ((first | apply ao_val | apply aq_val); exact wants_a; (first | exact ov_nilcheck rfl | exact ov_load_oa rfl hg cB rfl | exact ov_load_oa rfl hg cA rfl | exact ov_a); (exact rfl)) | refine zy ?_ | refine zon fun _ => ?_ | refine zoa fun vr lr hr => ?_ | refine zoS (fun _ => ?_) (fun _ => ?_) | refine zqS (fun _ => ?_) (fun _ => ?_) | refine zwS (fun _ => ?_) (fun _ => ?_))
        exact lq_normal' ⟨m + 1, !(eqAll [S k2.1, S k2.2.1, S k2.2.2] [S k.1, S k.2.1, S k.2.2]), rfl, by omega, by omega, by
          rw [hs, ← hb, hke]
          by_cases hk : k2 = k
          · rw [decide_eq_true hk, decide_eq_false (fun h => h hk)]; rfl
          · rw [decide_eq_false hk, decide_eq_true hk]; rfl, rfl, rfl⟩ (by omega) (by repeat (first | exact sub_nil | refine sub_cons rfl ?_)) hsub_a
    · obtain rfl : m = f.es.length := by omega
      rw [← hb, hd, Bool.true_and] at hds
      cases b
      · repeat' (first | refine aw_seq ?_ | ((first | apply ao_val | apply aq_val); exact wants_a; (first | exact ov_nilcheck rfl | exact ov_a); (exact rfl)) | refine zy ?_ | refine zon fun _ => ?_ | refine zoa fun vr lr hr => ?_ | ((first | apply ao_call | apply aq_call); exact wants_a; (first | exact oc_func rfl | exact oc_clos rfl rfl | exact oc_bnd rfl rfl); (exact rfl); (first | exact fun w hw => hsi w hw.below)) | refine zoS (fun _ => ?_) (fun _ => ?_) | refine zqS (fun _ => ?_) (fun _ => ?_) | refine zwS (fun _ => ?_) (fun _ => ?_))
        exact lq_normal' ⟨i + 1, rfl, by omega, hds, rfl, rfl⟩ (by omega) (by repeat (first | exact sub_nil | refine sub_cons rfl ?_)) hsub_a
      · cases hsb : stB f i
        · have hF : settledF f = false := done_false hlt hb.symm hsb
          rw [hsb] at hsi
          repeat' (first | refine aw_seq ?_ | ((first | apply ao_val | apply aq_val); exact wants_a; (first | exact ov_nilcheck rfl | exact ov_a); (exact rfl)) | refine zy ?_ | refine zon fun _ => ?_ | refine zoa fun vr lr hr => ?_ | ((first | apply ao_call | apply aq_call); exact wants_a; (first | exact oc_func rfl | exact oc_clos rfl rfl | exact oc_bnd rfl rfl); (exact rfl); (first | exact fun w hw => hsi w hw.below)) | refine zoS (fun _ => ?_) (fun _ => ?_) | refine zqS (fun _ => ?_) (fun _ => ?_) | refine zwS (fun _ => ?_) (fun _ => ?_))
          exact fun w' hw => ⟨by rw [hF], hw.below⟩
        · rw [hsb] at hds hsi
          repeat' (first | refine aw_seq ?_ | ((first | apply ao_val | apply aq_val); exact wants_a; (first | exact ov_nilcheck rfl | exact ov_a); (exact rfl)) | refine zy ?_ | refine zon fun _ => ?_ | refine zoa fun vr lr hr => ?_ | ((first | apply ao_call | apply aq_call); exact wants_a; (first | exact oc_func rfl | exact oc_clos rfl rfl | exact oc_bnd rfl rfl); (exact rfl); (first | exact fun w hw => hsi w hw.below)) | refine zoS (fun _ => ?_) (fun _ => ?_) | refine zqS (fun _ => ?_) (fun _ => ?_) | refine zwS (fun _ => ?_) (fun _ => ?_))
          exact lq_normal' ⟨i + 1, rfl, by omega, hds, rfl, rfl⟩ (by omega) (by repeat (first | exact sub_nil | refine sub_cons rfl ?_)) hsub_a
  · obtain rfl : i = f.es.length := by omega
    repeat' (first | refine aw_seq ?_ | ((first | apply ao_val | apply aq_val); exact wants_a; (first | exact ov_nilcheck rfl | exact ov_a); (exact rfl)) | refine zy ?_ | refine zon fun _ => ?_ | refine zoa fun vr lr hr => ?_ | refine zoS (fun _ => ?_) (fun _ => ?_) | refine zqS (fun _ => ?_) (fun _ => ?_) | refine zwS (fun _ => ?_) (fun _ => ?_))
    exact fun w' hw => ⟨by rw [settledF, hd], hw.below⟩
end Fdt
end Go.Proofs.Ytpenogailhlcaaa
