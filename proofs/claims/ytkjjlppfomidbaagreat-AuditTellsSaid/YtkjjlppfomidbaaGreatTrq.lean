/- The document's answer for layer 11: a tree in a world; Has, Parent, Path, In, Children, All, Below; conditions: at most 1,000 nodes. -/
import Derived.Test.YtkjjlppfomidbaaGreatTrd
import Derived.Test.YtkjjlppfomidbaaGreatTxs
import Derived.Test.YtkjjlppfomidbaaGreatLabs
/- Trm: The document's answer for layer 11: a tree in a world; Has, Parent, Path, In, Children, All, Below; conditions: at most 1,000 nodes. -/
namespace Go.Proofs.YtkjjlppfomidbaaGreat
namespace Trt
open Go Go.RowKit Sx
attribute [local irreducible] Go.Calls
def cells2 (e : Nm × Nm) : List Value := [S e.1, S e.2]
theorem cells2_len (e : Nm × Nm) : (cells2 e).length = 2 := rfl
structure TAt (w : World) (g : Nat) (t : Tr) (v : Value) : Prop where
  lt : g < w.heap.size
  c0 : w.cell? ⟨g, 0, none⟩ = some v
  ns : OldRow w 2 v t.length (t.flatMap cells2)
theorem TAt.below {w w' : World} {g : Nat} {t : Tr} {v : Value} (h : TAt w g t v) (hb : Below w.heap.size w w') : TAt w' g t v :=
  ⟨Nat.lt_of_lt_of_le h.lt hb.size, (hb.cell h.lt).trans h.c0, OldRow.below h.ns hb⟩
theorem has_f {t : Tr} {s : Nm} (h : ∀ (j : Nat) e, t[j]? = some e → e.1 ≠ s) : hasT t s = false := by
  cases hs : hasT t s
  · rfl
  · obtain ⟨e, he, hk⟩ := has_iff.1 hs
    obtain ⟨j, hj⟩ := List.getElem?_of_mem he
    exact absurd hk (h j e hj)
theorem par_first {t : Tr} {s : Nm} {i : Nat} {e : Nm × Nm} (he : t[i]? = some e) (hk : e.1 = s) (h : ∀ (j : Nat) e, j < i → t[j]? = some e → e.1 ≠ s) : parT t s = e.2 := by
  unfold parT
  rw [show t.find? (fun x => decide (x.1 = s)) = some e by
    rw [List.find?_eq_some_iff_getElem]
    refine ⟨decide_eq_true hk, i, (List.getElem?_eq_some_iff.1 he).1, (List.getElem?_eq_some_iff.1 he).2, fun j hj => ?_⟩
    have := h j _ hj (List.getElem?_eq_getElem (by have := (List.getElem?_eq_some_iff.1 he).1; omega))
    simpa using this]
set_option maxHeartbeats 8000000 in
theorem rhas_ok {w : World} {g : Nat} {t : Tr} {v : Value} (h : TAt w g t v) (hl : t.length ≤ 1000) (s : Nm) :
    Calls Tryz.prog 96 #[.pointer (some ⟨g, 0, none⟩), S s] w fun e w' => e = .returned (.bool (hasT t s)) ∧ Below w.heap.size w w' := by
  obtain ⟨lt, c0, hv⟩ := h
  obtain ⟨a, cp, rfl, hat⟩ := OldRow.cells cells2_len hv
  refine calls1 (args := [.pointer (some ⟨g, 0, none⟩), S s]) Tryz.func96 rfl rfl rfl rfl ?_
  repeat' (first | refine aw_seq ?_ | ((first | apply ao_val | apply aq_val); exact wants_a; (first | exact ov_nilcheck rfl | exact ov_a); (exact rfl)) | refine zy ?_ | refine zon fun _ => ?_ | refine zoa fun vr lr hr => ?_ | refine zoS (fun _ => ?_) (fun _ => ?_) | refine zqS (fun _ => ?_) (fun _ => ?_) | refine zwS (fun _ => ?_) (fun _ => ?_))
  refine aw_for (t0 := [(0, .pointer (some ⟨g, 0, none⟩)), (1, S s), (5, I (0 : Nat))]) (fun q tm H => ∃ i : Nat, q = t.length - i ∧ i ≤ t.length ∧ (∀ (j : Nat) (e : Nm × Nm), j < i → t[j]? = some e → e.1 ≠ s) ∧ tm = [(0, .pointer (some ⟨g, 0, none⟩)), (1, S s), (5, I i)] ∧ H = []) ⟨0, rfl, by omega, fun j e hj => by omega, rfl, rfl⟩ (by repeat (first | exact sub_nil | refine sub_cons rfl ?_)) ?_
  rintro q tm H ⟨i, rfl, hi, hall, rfl, rfl⟩
  by_cases hlt : i < t.length
  · obtain ⟨⟨n, p⟩, he⟩ := getP hlt
    obtain ⟨g1, o1, rfl, hg, hc⟩ := hat i _ (i : Int) he rfl
    have cN : w.cell? ⟨g1, o1 + (i : Int).toNat * 2 + 0, none⟩ = some (S n) := hc 0 _ rfl
    by_cases hk : n = s
    · rw [show hasT t s = true from has_iff.2 ⟨_, List.mem_of_getElem? he, hk⟩]
      have ek : (n == s) = true := beq_iff_eq.2 hk
      repeat' (first | refine aw_seq ?_ | ((first | apply ao_val | apply aq_val); exact wants_a; (first | exact ov_nilcheck rfl | exact ov_a); (exact rfl)) | refine zy ?_ | refine zon fun _ => ?_ | refine zoa fun vr lr hr => ?_ | refine zoS (fun _ => ?_) (fun _ => ?_) | refine zqS (fun _ => ?_) (fun _ => ?_) | refine zwS (fun _ => ?_) (fun _ => ?_))
      exact fun w' hw => ⟨rfl, hw.below⟩
    · have ek : (n == s) = false := beq_eq_false_iff_ne.2 hk
      repeat' (first | refine aw_seq ?_ | ((first | apply ao_val | apply aq_val); exact wants_a; (first | exact ov_nilcheck rfl | exact ov_a); (exact rfl)) | refine zy ?_ | refine zon fun _ => ?_ | refine zoa fun vr lr hr => ?_ | refine zoS (fun _ => ?_) (fun _ => ?_) | refine zqS (fun _ => ?_) (fun _ => ?_) | refine zwS (fun _ => ?_) (fun _ => ?_))
      exact lq_normal' ⟨i + 1, rfl, by omega, fun j e hj hje => by
        by_cases e1 : j = i
        · subst e1; rw [he] at hje; cases hje; exact hk
        · exact hall j e (by omega) hje, rfl, rfl⟩ (by omega) (by repeat (first | exact sub_nil | refine sub_cons rfl ?_)) hsub_a
  · obtain rfl : i = t.length := by omega
    rw [has_f fun j e hj => hall j e (List.getElem?_eq_some_iff.1 hj).1 hj]
    repeat' (first | refine aw_seq ?_ | ((first | apply ao_val | apply aq_val); exact wants_a; (first | exact ov_nilcheck rfl | exact ov_a); (exact rfl)) | refine zy ?_ | refine zon fun _ => ?_ | refine zoa fun vr lr hr => ?_ | refine zoS (fun _ => ?_) (fun _ => ?_) | refine zqS (fun _ => ?_) (fun _ => ?_) | refine zwS (fun _ => ?_) (fun _ => ?_))
    exact fun w' hw => ⟨rfl, hw.below⟩
set_option maxHeartbeats 8000000 in
theorem rpar_ok {w : World} {g : Nat} {t : Tr} {v : Value} (h : TAt w g t v) (hl : t.length ≤ 1000) (s : Nm) :
    Calls Tryz.prog 114 #[.pointer (some ⟨g, 0, none⟩), S s] w fun e w' => e = .returned (S (parT t s)) ∧ Below w.heap.size w w' := by
  obtain ⟨lt, c0, hv⟩ := h
  obtain ⟨a, cp, rfl, hat⟩ := OldRow.cells cells2_len hv
  refine calls1 (args := [.pointer (some ⟨g, 0, none⟩), S s]) Tryz.func114 rfl rfl rfl rfl ?_
  repeat' (first | refine aw_seq ?_ | ((first | apply ao_val | apply aq_val); exact wants_a; (first | exact ov_nilcheck rfl | exact ov_a); (exact rfl)) | refine zy ?_ | refine zon fun _ => ?_ | refine zoa fun vr lr hr => ?_ | refine zoS (fun _ => ?_) (fun _ => ?_) | refine zqS (fun _ => ?_) (fun _ => ?_) | refine zwS (fun _ => ?_) (fun _ => ?_))
  refine aw_for (t0 := [(0, .pointer (some ⟨g, 0, none⟩)), (1, S s), (5, I (0 : Nat))]) (fun q tm H => ∃ i : Nat, q = t.length - i ∧ i ≤ t.length ∧ (∀ (j : Nat) (e : Nm × Nm), j < i → t[j]? = some e → e.1 ≠ s) ∧ tm = [(0, .pointer (some ⟨g, 0, none⟩)), (1, S s), (5, I i)] ∧ H = []) ⟨0, rfl, by omega, fun j e hj => by omega, rfl, rfl⟩ (by repeat (first | exact sub_nil | refine sub_cons rfl ?_)) ?_
  rintro q tm H ⟨i, rfl, hi, hall, rfl, rfl⟩
  by_cases hlt : i < t.length
  · obtain ⟨⟨n, p⟩, he⟩ := getP hlt
    obtain ⟨g1, o1, rfl, hg, hc⟩ := hat i _ (i : Int) he rfl
    have cN : w.cell? ⟨g1, o1 + (i : Int).toNat * 2 + 0, none⟩ = some (S n) := hc 0 _ rfl
    have cP : w.cell? ⟨g1, o1 + (i : Int).toNat * 2 + 1, none⟩ = some (S p) := hc 1 _ rfl
    by_cases hk : n = s
    · rw [show parT t s = p from par_first he hk hall]
      have ek : (n == s) = true := beq_iff_eq.2 hk
      repeat' (first | refine aw_seq ?_ | ((first | apply ao_val | apply aq_val); exact wants_a; (first | exact ov_nilcheck rfl | exact ov_a); (exact rfl)) | refine zy ?_ | refine zon fun _ => ?_ | refine zoa fun vr lr hr => ?_ | refine zoS (fun _ => ?_) (fun _ => ?_) | refine zqS (fun _ => ?_) (fun _ => ?_) | refine zwS (fun _ => ?_) (fun _ => ?_))
      exact fun w' hw => ⟨rfl, hw.below⟩
    · have ek : (n == s) = false := beq_eq_false_iff_ne.2 hk
      repeat' (first | refine aw_seq ?_ | ((first | apply ao_val | apply aq_val); exact wants_a; (first | exact ov_nilcheck rfl | exact ov_a); (exact rfl)) | refine zy ?_ | refine zon fun _ => ?_ | refine zoa fun vr lr hr => ?_ | refine zoS (fun _ => ?_) (fun _ => ?_) | refine zqS (fun _ => ?_) (fun _ => ?_) | refine zwS (fun _ => ?_) (fun _ => ?_))
      exact lq_normal' ⟨i + 1, rfl, by omega, fun j e hj hje => by
        by_cases e1 : j = i
        · subst e1; rw [he] at hje; cases hje; exact hk
        · exact hall j e (by omega) hje, rfl, rfl⟩ (by omega) (by repeat (first | exact sub_nil | refine sub_cons rfl ?_)) hsub_a
  · obtain rfl : i = t.length := by omega
    rw [par_none (has_f fun j e hj => hall j e (List.getElem?_eq_some_iff.1 hj).1 hj)]
    repeat' (first | refine aw_seq ?_ | ((first | apply ao_val | apply aq_val); exact wants_a; (first | exact ov_nilcheck rfl | exact ov_a); (exact rfl)) | refine zy ?_ | refine zon fun _ => ?_ | refine zoa fun vr lr hr => ?_ | refine zoS (fun _ => ?_) (fun _ => ?_) | refine zqS (fun _ => ?_) (fun _ => ?_) | refine zwS (fun _ => ?_) (fun _ => ?_))
    exact fun w' hw => ⟨rfl, hw.below⟩
end Trt
end Go.Proofs.YtkjjlppfomidbaaGreat
/- Trn: The document's answer for layer 11: Path, Children, All, Below; conditions: at most 1,000 nodes. -/
namespace Go.Proofs.YtkjjlppfomidbaaGreat
namespace Trt
open Go Go.RowKit Sx
attribute [local irreducible] Go.Calls
set_option maxHeartbeats 8000000 in
theorem rpath_ok {w : World} {g : Nat} {t : Tr} {v : Value} (h : TAt w g t v) (hl : t.length ≤ 1000) (k : Nat) (hk : k ≤ 1000) (s : Nm) (he : (pathN t k s).length < k) :
    Calls Tryz.prog 75 #[.pointer (some ⟨g, 0, none⟩), S s] w fun e w' => ∃ r, e = .returned r ∧ NewRow 9 1 w w' r (pathN t k s).length ((pathN t k s).flatMap cells1) := by
  have hh := fun w' (hb : Below w.heap.size w w') s => rhas_ok (h.below hb) hl s
  have hp := fun w' (hb : Below w.heap.size w w') s => rpar_ok (h.below hb) hl s
  refine calls1 (args := [.pointer (some ⟨g, 0, none⟩), S s]) Tryz.func75 rfl rfl rfl rfl ?_
  repeat' (first | refine aw_seq ?_ | ((first | apply ao_val | apply aq_val); exact wants_a; (first | exact ov_nilcheck rfl | exact ov_a); (exact rfl)) | refine zy ?_ | refine zon fun _ => ?_ | refine zoa fun vr lr hr => ?_ | refine zoS (fun _ => ?_) (fun _ => ?_) | refine zqS (fun _ => ?_) (fun _ => ?_) | refine zwS (fun _ => ?_) (fun _ => ?_))
  refine aw_for (t0 := [(0, .pointer (some ⟨g, 0, none⟩)), (5, .slice none 0 0), (6, S s)]) (fun q tm H => ∃ (out : List Nm) (u : Nm) (v5 : Value) (l5 : Hp), (pathN t q u).length < q ∧ out ++ pathN t q u = pathN t k s ∧ out.length + q = k ∧ RowB 9 1 v5 l5 out.length (out.flatMap cells1) ∧ tm = [(0, .pointer (some ⟨g, 0, none⟩)), (5, v5), (6, S u)] ∧ H = l5 ++ [])
    ⟨[], s, _, [], he, rfl, Nat.zero_add _, RowB.nil, rfl, rfl⟩ (by repeat (first | exact sub_nil | refine sub_cons rfl ?_)) ?_
  rintro q tm H ⟨out, u, v5, l5, hq, hout, hlen, r5, rfl, rfl⟩
  obtain ⟨a5, c5, hv5⟩ := r5.len
  subst hv5
  obtain ⟨m, rfl⟩ : ∃ m, q = m + 1 := ⟨q - 1, by omega⟩
  have hhu := fun w' hw => hh w' hw u
  have hpu := fun w' hw => hp w' hw u
  rw [pathN] at hq hout
  cases hx : hasT t u
  · rw [if_neg (by rw [hx]; decide), List.append_nil] at hout
    rw [hx] at hhu
    rw [← hout]
    repeat' (first | refine aw_seq ?_ | ((first | apply ao_val | apply aq_val); exact wants_a; (first | exact ov_nilcheck rfl | exact ov_a); (exact rfl)) | refine zy ?_ | refine zon fun _ => ?_ | refine zoa fun vr lr hr => ?_ | ((first | apply ao_call | apply aq_call); exact wants_a; (first | exact oc_func rfl | exact oc_clos rfl rfl | exact oc_bnd rfl rfl); (exact rfl); (first | exact fun w hw => hhu w hw.below)) | refine zoS (fun _ => ?_) (fun _ => ?_) | refine zqS (fun _ => ?_) (fun _ => ?_) | refine zwS (fun _ => ?_) (fun _ => ?_))
    exact fun w' hw => ⟨_, rfl, hw.below, _, r5, fun b o hm => hw.at_ b o (List.mem_append_left _ hm)⟩
  · rw [if_pos hx] at hq hout
    rw [hx] at hhu
    repeat' (first | refine aw_seq ?_ | ((first | apply ao_val | apply aq_val); exact wants_a; (first | exact ov_nilcheck rfl | exact ov_a); (exact rfl)) | refine zy ?_ | refine zon fun _ => ?_ | refine zoa fun vr lr hr => ?_ | ((first | apply ao_call | apply aq_call); exact wants_a; (first | exact oc_func rfl | exact oc_clos rfl rfl | exact oc_bnd rfl rfl); (exact rfl); (first | exact fun w hw => hhu w hw.below | exact fun w hw => hpu w hw.below)) | refine zoS (fun _ => ?_) (fun _ => ?_) | refine zqS (fun _ => ?_) (fun _ => ?_) | refine zwS (fun _ => ?_) (fun _ => ?_))
    exact lq_normal' ⟨out ++ [u], parT t u, _, _, by rw [List.length_cons] at hq; omega, by rw [List.append_assoc]; exact hout, by rw [List.length_append, List.length_singleton]; omega, row1 hr, rfl, rfl⟩ (Nat.lt_succ_self m) (by repeat (first | exact sub_nil | refine sub_cons rfl ?_)) hsub_a
def chN (t : Tr) (s : Nm) (i : Nat) : List Nm := childT (t.take i) s
theorem chN_s {t : Tr} {s : Nm} {i : Nat} {e : Nm × Nm} (he : t[i]? = some e) : chN t s (i + 1) = chN t s i ++ (if e.2 = s ∧ e.1 ≠ rootN then [e.1] else []) := by
  unfold chN childT
  rw [List.take_add_one, he, List.filter_append, List.map_append]
  congr 1
  by_cases h : e.2 = s ∧ e.1 ≠ rootN
  · rw [if_pos h]; simp [h.1, h.2]
  · rw [if_neg h]
    have : (decide (e.2 = s) && decide (e.1 ≠ rootN)) = false := by
      rw [← Bool.not_eq_true, Bool.and_eq_true, decide_eq_true_eq, decide_eq_true_eq]
      exact h
    show (List.filter (fun e : Nm × Nm => decide (e.2 = s) && decide (e.1 ≠ rootN)) [e]).map (·.1) = []
    rw [List.filter_cons, if_neg (by rw [this]; decide)]
    rfl
theorem chN_len (t : Tr) (s : Nm) (i : Nat) : (chN t s i).length ≤ i := by
  unfold chN childT
  rw [List.length_map]
  have := List.length_filter_le (fun e : Nm × Nm => decide (e.2 = s) && decide (e.1 ≠ rootN)) (t.take i)
  rw [List.length_take] at this
  omega
set_option maxHeartbeats 8000000 in
theorem rchild_ok {w : World} {g : Nat} {t : Tr} {v : Value} (h : TAt w g t v) (hl : t.length ≤ 1000) (s : Nm) :
    Calls Tryz.prog 97 #[.pointer (some ⟨g, 0, none⟩), S s] w fun e w' => ∃ r, e = .returned r ∧ NewRow 9 1 w w' r (childT t s).length ((childT t s).flatMap cells1) := by
  obtain ⟨lt, c0, hv⟩ := h
  obtain ⟨a, cp, rfl, hat⟩ := OldRow.cells cells2_len hv
  refine calls1 (args := [.pointer (some ⟨g, 0, none⟩), S s]) Tryz.func97 rfl rfl rfl rfl ?_
  repeat' (first | refine aw_seq ?_ | ((first | apply ao_val | apply aq_val); exact wants_a; (first | exact ov_nilcheck rfl | exact ov_a); (exact rfl)) | refine zy ?_ | refine zon fun _ => ?_ | refine zoa fun vr lr hr => ?_ | refine zoS (fun _ => ?_) (fun _ => ?_) | refine zqS (fun _ => ?_) (fun _ => ?_) | refine zwS (fun _ => ?_) (fun _ => ?_))
  refine aw_for (t0 := [(0, .pointer (some ⟨g, 0, none⟩)), (1, S s), (5, .slice none 0 0), (6, I (0 : Nat))]) (fun q tm H => ∃ (i : Nat) (v5 : Value) (l5 : Hp), q = t.length - i ∧ i ≤ t.length ∧ RowB 9 1 v5 l5 (chN t s i).length ((chN t s i).flatMap cells1) ∧ tm = [(0, .pointer (some ⟨g, 0, none⟩)), (1, S s), (5, v5), (6, I i)] ∧ H = l5 ++ [])
    ⟨0, _, [], rfl, by omega, RowB.nil, rfl, rfl⟩ (by repeat (first | exact sub_nil | refine sub_cons rfl ?_)) ?_
  rintro q tm H ⟨i, v5, l5, rfl, hi, r5, rfl, rfl⟩
  obtain ⟨a5, c5, hv5⟩ := r5.len
  subst hv5
  have hln := chN_len t s i
  by_cases hlt : i < t.length
  · obtain ⟨⟨n, p⟩, he⟩ := getP hlt
    obtain ⟨g1, o1, rfl, hg, hc⟩ := hat i _ (i : Int) he rfl
    have cN : w.cell? ⟨g1, o1 + (i : Int).toNat * 2 + 0, none⟩ = some (S n) := hc 0 _ rfl
    have cP : w.cell? ⟨g1, o1 + (i : Int).toNat * 2 + 1, none⟩ = some (S p) := hc 1 _ rfl
    have hnx := chN_s (s := s) he
    simp only at hnx
    by_cases hk : p = s
    · have ek : (p == s) = true := beq_iff_eq.2 hk
      by_cases hr : n = rootN
      · rw [if_neg fun h => h.2 hr, List.append_nil] at hnx
        subst hr
        repeat' (first | refine aw_seq ?_ | ((first | apply ao_val | apply aq_val); exact wants_a; (first | exact ov_nilcheck rfl | exact ov_a); (exact rfl)) | refine zy ?_ | refine zon fun _ => ?_ | refine zoa fun vr lr hr => ?_ | refine zoS (fun _ => ?_) (fun _ => ?_) | refine zqS (fun _ => ?_) (fun _ => ?_) | refine zwS (fun _ => ?_) (fun _ => ?_))
        exact lq_normal' ⟨i + 1, _, _, rfl, by omega, by rw [hnx]; exact r5, rfl, rfl⟩ (by omega) (by repeat (first | exact sub_nil | refine sub_cons rfl ?_)) hsub_a
      · rw [if_pos ⟨hk, hr⟩] at hnx
        have er : (!(n == rootN)) = true := by rw [beq_eq_false_iff_ne.2 hr]; rfl
        repeat' (first | refine aw_seq ?_ | ((first | apply ao_val | apply aq_val); exact wants_a; (first | exact ov_nilcheck rfl | exact ov_a); (exact rfl)) | refine zy ?_ | refine zon fun _ => ?_ | refine zoa fun vr lr hr => ?_ | refine zoS (fun _ => ?_) (fun _ => ?_) | refine zqS (fun _ => ?_) (fun _ => ?_) | refine zwS (fun _ => ?_) (fun _ => ?_))
        exact lq_normal' ⟨i + 1, _, _, rfl, by omega, by rw [hnx]; exact row1 hr, rfl, rfl⟩ (by omega) (by repeat (first | exact sub_nil | refine sub_cons rfl ?_)) hsub_a
    · have ek : (p == s) = false := beq_eq_false_iff_ne.2 hk
      rw [if_neg fun h => hk h.1, List.append_nil] at hnx
      repeat' (first | refine aw_seq ?_ | ((first | apply ao_val | apply aq_val); exact wants_a; (first | exact ov_nilcheck rfl | exact ov_a); (exact rfl)) | refine zy ?_ | refine zon fun _ => ?_ | refine zoa fun vr lr hr => ?_ | refine zoS (fun _ => ?_) (fun _ => ?_) | refine zqS (fun _ => ?_) (fun _ => ?_) | refine zwS (fun _ => ?_) (fun _ => ?_))
      exact lq_normal' ⟨i + 1, _, _, rfl, by omega, by rw [hnx]; exact r5, rfl, rfl⟩ (by omega) (by repeat (first | exact sub_nil | refine sub_cons rfl ?_)) hsub_a
  · obtain rfl : i = t.length := by omega
    have hall : chN t s t.length = childT t s := by unfold chN; rw [List.take_length]
    rw [hall] at r5
    repeat' (first | refine aw_seq ?_ | ((first | apply ao_val | apply aq_val); exact wants_a; (first | exact ov_nilcheck rfl | exact ov_a); (exact rfl)) | refine zy ?_ | refine zon fun _ => ?_ | refine zoa fun vr lr hr => ?_ | refine zoS (fun _ => ?_) (fun _ => ?_) | refine zqS (fun _ => ?_) (fun _ => ?_) | refine zwS (fun _ => ?_) (fun _ => ?_))
    exact fun w' hw => ⟨_, rfl, hw.below, _, by rw [← hall]; rw [← hall] at r5; exact r5, fun b o hm => hw.at_ b o (List.mem_append_left _ hm)⟩
set_option maxHeartbeats 8000000 in
theorem rall_ok {w : World} {g : Nat} {t : Tr} {v : Value} (h : TAt w g t v) (hl : t.length ≤ 1000) :
    Calls Tryz.prog 11 #[.pointer (some ⟨g, 0, none⟩)] w fun e w' => ∃ r, e = .returned r ∧ NewRow 9 1 w w' r (t.map (·.1)).length ((t.map (·.1)).flatMap cells1) := by
  obtain ⟨lt, c0, hv⟩ := h
  obtain ⟨a, cp, rfl, hat⟩ := OldRow.cells cells2_len hv
  refine calls1 (args := [.pointer (some ⟨g, 0, none⟩)]) Tryz.func11 rfl rfl rfl rfl ?_
  repeat' (first | refine aw_seq ?_ | ((first | apply ao_val | apply aq_val); exact wants_a; (first | exact ov_nilcheck rfl | exact ov_a); (exact rfl)) | refine zy ?_ | refine zon fun _ => ?_ | refine zoa fun vr lr hr => ?_ | refine zoS (fun _ => ?_) (fun _ => ?_) | refine zqS (fun _ => ?_) (fun _ => ?_) | refine zwS (fun _ => ?_) (fun _ => ?_))
  refine aw_for (t0 := [(0, .pointer (some ⟨g, 0, none⟩)), (3, .slice none 0 0), (4, I (0 : Nat))]) (fun q tm H => ∃ (i : Nat) (v5 : Value) (l5 : Hp), q = t.length - i ∧ i ≤ t.length ∧ RowB 9 1 v5 l5 ((t.take i).map (·.1)).length (((t.take i).map (·.1)).flatMap cells1) ∧ tm = [(0, .pointer (some ⟨g, 0, none⟩)), (3, v5), (4, I i)] ∧ H = l5 ++ [])
    ⟨0, _, [], rfl, by omega, RowB.nil, rfl, rfl⟩ (by repeat (first | exact sub_nil | refine sub_cons rfl ?_)) ?_
  rintro q tm H ⟨i, v5, l5, rfl, hi, r5, rfl, rfl⟩
  obtain ⟨a5, c5, hv5⟩ := r5.len
  subst hv5
  have hln : ((t.take i).map (·.1)).length ≤ i := by rw [List.length_map, List.length_take]; omega
  by_cases hlt : i < t.length
  · obtain ⟨⟨n, p⟩, he⟩ := getP hlt
    obtain ⟨g1, o1, rfl, hg, hc⟩ := hat i _ (i : Int) he rfl
    have cN : w.cell? ⟨g1, o1 + (i : Int).toNat * 2 + 0, none⟩ = some (S n) := hc 0 _ rfl
    have hnx : (t.take (i + 1)).map (·.1) = (t.take i).map (·.1) ++ [n] := by rw [List.take_add_one, he, List.map_append]; rfl
    repeat' (first | refine aw_seq ?_ | ((first | apply ao_val | apply aq_val); exact wants_a; (first | exact ov_nilcheck rfl | exact ov_a); (exact rfl)) | refine zy ?_ | refine zon fun _ => ?_ | refine zoa fun vr lr hr => ?_ | refine zoS (fun _ => ?_) (fun _ => ?_) | refine zqS (fun _ => ?_) (fun _ => ?_) | refine zwS (fun _ => ?_) (fun _ => ?_))
    exact lq_normal' ⟨i + 1, _, _, rfl, by omega, by rw [hnx]; exact row1 hr, rfl, rfl⟩ (by omega) (by repeat (first | exact sub_nil | refine sub_cons rfl ?_)) hsub_a
  · obtain rfl : i = t.length := by omega
    repeat' (first | refine aw_seq ?_ | ((first | apply ao_val | apply aq_val); exact wants_a; (first | exact ov_nilcheck rfl | exact ov_a); (exact rfl)) | refine zy ?_ | refine zon fun _ => ?_ | refine zoa fun vr lr hr => ?_ | refine zoS (fun _ => ?_) (fun _ => ?_) | refine zqS (fun _ => ?_) (fun _ => ?_) | refine zwS (fun _ => ?_) (fun _ => ?_))
    exact fun w' hw => ⟨_, rfl, hw.below, _, by rw [List.take_length] at r5 ⊢; exact r5, fun b o hm => hw.at_ b o (List.mem_append_left _ hm)⟩
end Trt
end Go.Proofs.YtkjjlppfomidbaaGreat
/- Tro: The document's answer for layer 11: Below, Texts; conditions: at most 1,000 nodes, no path longer than eight. -/
namespace Go.Proofs.YtkjjlppfomidbaaGreat
namespace Trt
open Go Go.RowKit Sx
attribute [local irreducible] Go.Calls
def blN (t : Tr) (s : Nm) (i : Nat) : List Nm := ((t.take i).filter fun e => decide (s ∈ pathT t e.1)).map (·.1)
theorem blN_s {t : Tr} {s : Nm} {i : Nat} {e : Nm × Nm} (he : t[i]? = some e) : blN t s (i + 1) = blN t s i ++ (if s ∈ pathT t e.1 then [e.1] else []) := by
  unfold blN
  rw [List.take_add_one, he, List.filter_append, List.map_append]
  congr 1
  show (List.filter _ [e]).map (·.1) = _
  by_cases h : s ∈ pathT t e.1
  · rw [if_pos h, List.filter_cons, if_pos (decide_eq_true h)]; rfl
  · rw [if_neg h, List.filter_cons, if_neg (by rw [decide_eq_false h]; decide)]; rfl
theorem blN_len (t : Tr) (s : Nm) (i : Nat) : (blN t s i).length ≤ i := by
  unfold blN
  rw [List.length_map]
  have := List.length_filter_le (fun e : Nm × Nm => decide (s ∈ pathT t e.1)) (t.take i)
  rw [List.length_take] at this
  omega
theorem blN_all (t : Tr) (s : Nm) : blN t s t.length = belowT t s := by unfold blN belowT; rw [List.take_length]
set_option maxHeartbeats 16000000 in
theorem rbelow_ok {w : World} {g : Nat} {t : Tr} {v : Value} (h : TAt w g t v) (hl : t.length ≤ 1000) (hd : ∀ e ∈ t, (pathT t e.1).length ≤ 8) (s : Nm) :
    Calls Tryz.prog 42 #[.pointer (some ⟨g, 0, none⟩), S s] w fun e w' => ∃ r, e = .returned r ∧ NewRow 9 1 w w' r (belowT t s).length ((belowT t s).flatMap cells1) := by
  have hpa := fun w' (hb : Below w.heap.size w w') k (hk : (pathT t k).length ≤ 8) => rpath_ok (h.below hb) hl 9 (by omega) k (by unfold pathT at hk; omega)
  obtain ⟨lt, c0, hv⟩ := h
  obtain ⟨a, cp, rfl, hat⟩ := OldRow.cells cells2_len hv
  refine calls1 (args := [.pointer (some ⟨g, 0, none⟩), S s]) Tryz.func42 rfl rfl rfl rfl ?_
  repeat' (first | refine aw_seq ?_ | ((first | apply ao_val | apply aq_val); exact wants_a; (first | exact ov_nilcheck rfl | exact ov_a); (exact rfl)) | refine zy ?_ | refine zon fun _ => ?_ | refine zoa fun vr lr hr => ?_ | refine zoS (fun _ => ?_) (fun _ => ?_) | refine zqS (fun _ => ?_) (fun _ => ?_) | refine zwS (fun _ => ?_) (fun _ => ?_))
  refine aw_for (t0 := [(0, .pointer (some ⟨g, 0, none⟩)), (1, S s), (5, .slice none 0 0), (6, I (0 : Nat))]) (fun q tm H => ∃ (i : Nat) (v5 : Value) (l5 : Hp), q = t.length - i ∧ i ≤ t.length ∧ RowB 9 1 v5 l5 (blN t s i).length ((blN t s i).flatMap cells1) ∧ tm = [(0, .pointer (some ⟨g, 0, none⟩)), (1, S s), (5, v5), (6, I i)] ∧ H = l5 ++ [])
    ⟨0, _, [], rfl, by omega, RowB.nil, rfl, rfl⟩ (by repeat (first | exact sub_nil | refine sub_cons rfl ?_)) ?_
  rintro q tm H ⟨i, v5, l5, rfl, hi, r5, rfl, rfl⟩
  obtain ⟨a5, c5, hv5⟩ := r5.len
  subst hv5
  have hln := blN_len t s i
  by_cases hlt : i < t.length
  · obtain ⟨⟨n, p⟩, he⟩ := getP hlt
    obtain ⟨g1, o1, rfl, hg, hc⟩ := hat i _ (i : Int) he rfl
    have cN : w.cell? ⟨g1, o1 + (i : Int).toNat * 2 + 0, none⟩ = some (S n) := hc 0 _ rfl
    have hnx := blN_s (s := s) he
    simp only at hnx
    have hpl := hd _ (List.mem_of_getElem? he)
    simp only at hpl
    have hpn := fun w' hw => hpa w' hw n hpl
    obtain ⟨L, hL⟩ : ∃ L, pathT t n = L := ⟨_, rfl⟩
    rw [show pathN t 9 n = L from hL] at hpn
    rw [hL] at hnx hpl
    by_cases hk : s ∈ L
    · rw [if_pos hk] at hnx
      have hin := fun v w' (hv : OldRow w' 1 v L.length (L.flatMap cells1)) => rin_ok L (by omega) s v w' hv
      rw [decide_eq_true hk] at hin
      repeat' (first | refine aw_seq ?_ | ((first | apply ao_val | apply aq_val); exact wants_a; (first | exact ov_nilcheck rfl | exact ov_a); (exact rfl)) | refine zy ?_ | refine zon fun _ => ?_ | refine zoa fun vr lr hr => ?_ | ((first | apply ao_call | apply aq_call); exact wants_a; (first | exact oc_func rfl | exact oc_clos rfl rfl | exact oc_bnd rfl rfl); (exact rfl); (first | exact fun w hw => hin _ w (hw.oldr hr cut_a))) | (apply ao_callr; exact wants_a; (exact oc_func rfl); (exact rfl); (first | exact fun w hw => hpn w hw.below); intro vr lr hr) | refine zoS (fun _ => ?_) (fun _ => ?_) | refine zqS (fun _ => ?_) (fun _ => ?_) | refine zwS (fun _ => ?_) (fun _ => ?_))
      exact lq_normal' ⟨i + 1, _, _, rfl, by omega, by rw [hnx]; exact row1 (by assumption), rfl, rfl⟩ (by omega) (by repeat (first | exact sub_nil | refine sub_cons rfl ?_)) hsub_a
    · rw [if_neg hk, List.append_nil] at hnx
      have hin := fun v w' (hv : OldRow w' 1 v L.length (L.flatMap cells1)) => rin_ok L (by omega) s v w' hv
      rw [decide_eq_false hk] at hin
      repeat' (first | refine aw_seq ?_ | ((first | apply ao_val | apply aq_val); exact wants_a; (first | exact ov_nilcheck rfl | exact ov_a); (exact rfl)) | refine zy ?_ | refine zon fun _ => ?_ | refine zoa fun vr lr hr => ?_ | ((first | apply ao_call | apply aq_call); exact wants_a; (first | exact oc_func rfl | exact oc_clos rfl rfl | exact oc_bnd rfl rfl); (exact rfl); (first | exact fun w hw => hin _ w (hw.oldr hr cut_a))) | (apply ao_callr; exact wants_a; (exact oc_func rfl); (exact rfl); (first | exact fun w hw => hpn w hw.below); intro vr lr hr) | refine zoS (fun _ => ?_) (fun _ => ?_) | refine zqS (fun _ => ?_) (fun _ => ?_) | refine zwS (fun _ => ?_) (fun _ => ?_))
      exact lq_normal' ⟨i + 1, _, _, rfl, by omega, by rw [hnx]; exact r5, rfl, rfl⟩ (by omega) (by repeat (first | exact sub_nil | refine sub_cons rfl ?_)) hsub_a
  · obtain rfl : i = t.length := by omega
    rw [blN_all] at r5
    repeat' (first | refine aw_seq ?_ | ((first | apply ao_val | apply aq_val); exact wants_a; (first | exact ov_nilcheck rfl | exact ov_a); (exact rfl)) | refine zy ?_ | refine zon fun _ => ?_ | refine zoa fun vr lr hr => ?_ | refine zoS (fun _ => ?_) (fun _ => ?_) | refine zqS (fun _ => ?_) (fun _ => ?_) | refine zwS (fun _ => ?_) (fun _ => ?_))
    exact fun w' hw => ⟨_, rfl, hw.below, _, by rw [← blN_all]; rw [← blN_all] at r5; exact r5, fun b o hm => hw.at_ b o (List.mem_append_left _ hm)⟩
end Trt
end Go.Proofs.YtkjjlppfomidbaaGreat
/- Trp: The document's answer for layer 11 in the own heap: Begin, Remove, Create; conditions: at most 200 nodes, texts of at most 100,000 bytes. -/
namespace Go.Proofs.YtkjjlppfomidbaaGreat
namespace Trt
open Go Go.RowKit Sx
attribute [local irreducible] Go.Calls
instance : TyPtr Tryz.prog 28 89 := ⟨by kernel_rfl⟩
theorem flat2 (es : Tr) : (es.flatMap cells2).all flat = true := by
  rw [List.all_eq_true]
  intro x hx
  obtain ⟨e, -, hxe⟩ := List.mem_flatMap.1 hx
  unfold cells2 at hxe
  simp only [List.mem_cons, List.not_mem_nil, or_false] at hxe
  rcases hxe with h | h <;> subst h <;> rfl
def RTr (g : Nat) (t : Tr) (l : Hp) : Prop := ∃ v lN, l = (g, .cells #[v] 89 (0, 0)) :: lN ∧ RowB 91 2 v lN t.length (t.flatMap cells2)
theorem tAt_of {n : Nat} {w0 w : World} {H R1 lN : Hp} {g : Nat} {t : Tr} {v : Value} (h : RepH ⟨w0.heap.size, w0, n⟩ H w) (hb : Has H g (.cells #[v] 89 (0, 0)))
    (hN : RowB 91 2 v lN t.length (t.flatMap cells2)) (c1 : Cut H lN R1) : TAt w g t v := by
  have hg := (h.has hb).2
  have hg2 : w.heap[g]? = some (.cells (List.toArray [v]) 89 (0, 0)) := hg
  exact ⟨(Array.getElem?_eq_some_iff.1 hg).1, by rw [cell_of hg2]; rfl, h.oldr hN c1⟩
def RDid (g : Nat) (x : Int × Tr) (R : Hp) (u : Value) (H' : Hp) : Prop := u = I x.1 ∧ ∃ l', H' = l' ++ R ∧ RTr g x.2 l'
def Tr.new : Tr := [(rootN, [])]
theorem rbegin_ok (w : World) : Calls Tryz.prog 31 #[] w fun e w' => ∃ r, e = .returned r ∧ NewD (fun r l => ∃ g, r = .pointer (some ⟨g, 0, none⟩) ∧ RTr g Tr.new l) w w' r := by
  refine calls1 (args := []) Tryz.func31 rfl rfl rfl rfl ?_
  repeat' (first | refine aw_seq ?_ | refine zz ?_ | refine zon fun _ => ?_ | refine zoa fun vr lr hr => ?_ | refine zoS (fun _ => ?_) (fun _ => ?_) | refine zqS (fun _ => ?_) (fun _ => ?_) | refine zwS (fun _ => ?_) (fun _ => ?_))
  refine fun w' hw => ⟨_, rfl, hw.toD rfl (l := [_, _]) (R := []) (List.Perm.refl _) ⟨_, rfl, _, _, rfl, rfl, .inr ⟨_, 1, _, rfl, rfl, Nat.le_refl _, rfl, rfl⟩⟩⟩
def reN (t : Tr) (n : Nm) (i : Nat) : Tr := (t.take i).filter fun e => decide (e.1 ≠ n)
theorem reN_s {t : Tr} {n : Nm} {i : Nat} {e : Nm × Nm} (he : t[i]? = some e) : reN t n (i + 1) = reN t n i ++ (if e.1 ≠ n then [e] else []) := by
  unfold reN
  rw [List.take_add_one, he, List.filter_append]
  congr 1
  show (List.filter _ [e]) = _
  by_cases h : e.1 ≠ n
  · rw [if_pos h, List.filter_cons, if_pos (decide_eq_true h)]; rfl
  · rw [if_neg h, List.filter_cons, if_neg (by rw [decide_eq_false h]; decide)]; rfl
theorem reN_len (t : Tr) (n : Nm) (i : Nat) : (reN t n i).length ≤ i := by
  unfold reN
  have := List.length_filter_le (fun e : Nm × Nm => decide (e.1 ≠ n)) (t.take i)
  rw [List.length_take] at this
  omega
theorem row22 {v : Value} {l : Hp} {ks : Tr} {k j : Nm × Nm} {e : TypeId} (h : RowB e 2 v l (ks.length + 1 + 1) (ks.flatMap cells2 ++ [S k.1, S k.2] ++ [S j.1, S j.2])) : RowB e 2 v l (ks ++ [k] ++ [j]).length ((ks ++ [k] ++ [j]).flatMap cells2) := by
  rw [List.length_append, List.length_append, List.flatMap_append, List.flatMap_append]
  exact h
theorem row2 {v : Value} {l : Hp} {ks : Tr} {k : Nm × Nm} {e : TypeId} (h : RowB e 2 v l (ks.length + 1) (ks.flatMap cells2 ++ [S k.1, S k.2])) : RowB e 2 v l (ks ++ [k]).length ((ks ++ [k]).flatMap cells2) := by
  rw [List.length_append, List.flatMap_append]
  exact h
set_option maxHeartbeats 16000000 in
theorem rrem_ok {m : Nat} {w0 : World} {g : Nat} {t : Tr} {l : Hp} (h : RTr g t l) (h0 : 0 < t.length) (hl : t.length ≤ 200) (n : Nm) (R : Hp) :
    CallsH Tryz.prog ⟨w0.heap.size, w0, m⟩ 60 [.pointer (some ⟨g, 0, none⟩), S n] (l ++ R) (RDid g (removeT t n) R) := by
  obtain ⟨v, lN, rfl, hN⟩ := h
  rw [List.cons_append]
  refine callsH1p (args := [.pointer (some ⟨g, 0, none⟩), S n]) Tryz.func60 rfl rfl rfl rfl ?_
  have same : ∀ er : Int, RDid g (er, t) R (I er) ((g, .cells #[v] 89 (0, 0)) :: (lN ++ R)) := fun er => ⟨rfl, _, by rw [← List.cons_append], v, lN, rfl, hN⟩
  have hh := fun w' (h : TAt w' g t v) => rhas_ok h (by omega) n
  have hc := fun w' (h : TAt w' g t v) => rchild_ok h (by omega) n
  unfold removeT
  cases hx : hasT t n
  · rw [if_pos rfl]
    rw [hx] at hh
    repeat' (first | refine aw_seq ?_ | ((first | apply ao_val | apply aq_val); exact wants_a; (first | exact ov_nilcheck rfl | exact ov_a); (exact rfl)) | refine zy ?_ | refine zon fun _ => ?_ | refine zoa fun vr lr hr => ?_ | ((first | apply ao_call | apply aq_call); exact wants_a; (first | exact oc_func rfl | exact oc_clos rfl rfl | exact oc_bnd rfl rfl); (exact rfl); (first | exact fun w hw => hh w (tAt_of hw has_a hN cut_a))) | refine zoS (fun _ => ?_) (fun _ => ?_) | refine zqS (fun _ => ?_) (fun _ => ?_) | refine zwS (fun _ => ?_) (fun _ => ?_))
    exact ⟨_, _, hsub_a, List.Perm.refl _, same 4⟩
  rw [if_neg (by decide)]
  rw [hx] at hh
  by_cases hrt : n = rootN
  · rw [if_pos hrt]
    subst hrt
    repeat' (first | refine aw_seq ?_ | ((first | apply ao_val | apply aq_val); exact wants_a; (first | exact ov_nilcheck rfl | exact ov_a); (exact rfl)) | refine zy ?_ | refine zon fun _ => ?_ | refine zoa fun vr lr hr => ?_ | ((first | apply ao_call | apply aq_call); exact wants_a; (first | exact oc_func rfl | exact oc_clos rfl rfl | exact oc_bnd rfl rfl); (exact rfl); (first | exact fun w hw => hh w (tAt_of hw has_a hN cut_a))) | refine zoS (fun _ => ?_) (fun _ => ?_) | refine zqS (fun _ => ?_) (fun _ => ?_) | refine zwS (fun _ => ?_) (fun _ => ?_))
    exact ⟨_, _, hsub_a, List.Perm.refl _, same 1⟩
  rw [if_neg hrt]
  have er : (n == rootN) = false := beq_eq_false_iff_ne.2 hrt
  by_cases hch : childT t n ≠ []
  · rw [if_pos hch]
    have hpos : (0 : Int) < (childT t n).length := by have := List.length_pos_iff.2 hch; omega
    repeat' (first | refine aw_seq ?_ | ((first | apply ao_val | apply aq_val); exact wants_a; (first | exact ov_nilcheck rfl | exact ov_lenr rfl hr | exact ov_a); (exact rfl)) | refine zy ?_ | refine zon fun _ => ?_ | refine zoa fun vr lr hr => ?_ | ((first | apply ao_call | apply aq_call); exact wants_a; (first | exact oc_func rfl | exact oc_clos rfl rfl | exact oc_bnd rfl rfl); (exact rfl); (first | exact fun w hw => hh w (tAt_of hw has_a hN cut_a))) | (apply ao_callr; exact wants_a; (exact oc_func rfl); (exact rfl); (first | exact fun w hw => hc w (tAt_of hw has_a hN cut_a)); intro vr lr hr) | refine zoS (fun _ => ?_) (fun _ => ?_) | refine zqS (fun _ => ?_) (fun _ => ?_) | refine zwS (fun _ => ?_) (fun _ => ?_))
    exact ⟨_, _, hsub_a, List.Perm.refl _, same 10⟩
  rw [if_neg hch]
  have hch2 : childT t n = [] := by simpa using hch
  rw [hch2] at hc
  obtain ⟨gN, capN, csN, rfl, rfl, hcap, hlen, htk, hcell⟩ := openB cells2_len hN h0
  repeat' (first | refine aw_seq ?_ | ((first | apply ao_val | apply aq_val); exact wants_a; (first | exact ov_nilcheck rfl | exact ov_lenr rfl hr | exact ov_a); (exact rfl)) | refine zy ?_ | refine zon fun _ => ?_ | refine zoa fun vr lr hr => ?_ | ((first | apply ao_call | apply aq_call); exact wants_a; (first | exact oc_func rfl | exact oc_clos rfl rfl | exact oc_bnd rfl rfl); (exact rfl); (first | exact fun w hw => hh w (tAt_of hw has_a hN cut_a))) | (apply ao_callr; exact wants_a; (exact oc_func rfl); (exact rfl); (first | exact fun w hw => hc w (tAt_of hw has_a hN cut_a)); intro vr lr hr) | refine zoS (fun _ => ?_) (fun _ => ?_) | refine zqS (fun _ => ?_) (fun _ => ?_) | refine zwS (fun _ => ?_) (fun _ => ?_))
  refine aw_forH (t0 := [(0, .pointer (some ⟨g, 0, none⟩)), (1, S n), (5, .slice none 0 0), (6, I (0 : Nat))]) (fun q tm H => ∃ (i : Nat) (v5 : Value) (l5 : Hp), q = t.length - i ∧ i ≤ t.length ∧ RowB 91 2 v5 l5 (reN t n i).length ((reN t n i).flatMap cells2) ∧ tm = [(0, .pointer (some ⟨g, 0, none⟩)), (1, S n), (5, v5), (6, I i)] ∧ H = l5 ++ ((g, .cells #[.slice (some ⟨gN, 0, none⟩) t.length capN] 89 (0, 0)) :: ((gN, .cells csN.toArray 91 (0, 0)) :: R)))
    ⟨0, _, [], rfl, by omega, RowB.nil, rfl, rfl⟩ (by repeat (first | exact sub_nil | refine sub_cons rfl ?_)) (by repeat (first | exact List.Sublist.refl _ | apply hs_app | apply hs_keep | apply hs_skip | apply hs_app0)) ?_
  rintro q tm H ⟨i, v5, l5, rfl, hi, r5, rfl, rfl⟩
  obtain ⟨a5, c5, hv5⟩ := r5.len
  subst hv5
  have hln := reN_len t n i
  by_cases hlt : i < t.length
  · obtain ⟨⟨x, p⟩, he⟩ := getP hlt
    have cX : csN[0 + (i : Int).toNat * 2 + 0]? = some (S x) := hcell i _ (i : Int) 0 _ he rfl rfl
    have slX : sl (0 + (i : Int).toNat * 2) 2 csN = some [S x, S p] := sl_of (vs := cells2 (x, p)) (.inl (Nat.zero_lt_succ _)) fun j y hj => hcell i _ (i : Int) j y he rfl hj
    have hnx := reN_s (n := n) he
    simp only at hnx
    by_cases hk : x = n
    · rw [if_neg fun h => h hk, List.append_nil] at hnx
      have ek : (x != n) = false := by rw [hk]; exact bne_self_eq_false _
      repeat' (first | refine aw_seq ?_ | ((first | apply ao_val | apply aq_val); exact wants_a; (first | exact ov_nilcheck rfl | exact ov_a); (exact rfl)) | refine zy ?_ | refine zon fun _ => ?_ | refine zoa fun vr lr hr => ?_ | refine zoS (fun _ => ?_) (fun _ => ?_) | refine zqS (fun _ => ?_) (fun _ => ?_) | refine zwS (fun _ => ?_) (fun _ => ?_))
      exact lq_normal' ⟨i + 1, _, _, rfl, by omega, by rw [hnx]; exact r5, rfl, rfl⟩ (by omega) (by repeat (first | exact sub_nil | refine sub_cons rfl ?_)) hsub_a
    · rw [if_pos hk] at hnx
      have ek : (x != n) = true := bne_iff_ne.2 hk
      repeat' (first | refine aw_seq ?_ | ((first | apply ao_val | apply aq_val); exact wants_a; (first | exact ov_nilcheck rfl | exact ov_a); (exact rfl)) | refine zy ?_ | refine zon fun _ => ?_ | refine zoa fun vr lr hr => ?_ | refine zoS (fun _ => ?_) (fun _ => ?_) | refine zqS (fun _ => ?_) (fun _ => ?_) | refine zwS (fun _ => ?_) (fun _ => ?_))
      exact lq_normal' ⟨i + 1, _, _, rfl, by omega, by rw [hnx]; exact row2 (by assumption), rfl, rfl⟩ (by omega) (by repeat (first | exact sub_nil | refine sub_cons rfl ?_)) hsub_a
  · obtain rfl : i = t.length := by omega
    have e5 : reN t n t.length = t.filter fun e => decide (e.1 ≠ n) := by unfold reN; rw [List.take_length]
    repeat' (first | refine aw_seq ?_ | ((first | apply ao_val | apply aq_val); exact wants_a; (first | exact ov_nilcheck rfl | exact ov_a); (exact rfl)) | refine zy ?_ | refine zon fun _ => ?_ | refine zoa fun vr lr hr => ?_ | refine zoS (fun _ => ?_) (fun _ => ?_) | refine zqS (fun _ => ?_) (fun _ => ?_) | refine zwS (fun _ => ?_) (fun _ => ?_))
    exact ⟨l5 ++ ((g, .cells #[.slice a5 (reN t n t.length).length c5] 89 (0, 0)) :: R), _, hsub_a, perm_m, rfl, _, rfl, _, _, rfl, by rw [← e5]; exact r5⟩
theorem insT_no {x : Nm × Nm} : ∀ {l : Tr}, (∀ e ∈ l, Op.bytesLess x.1 e.1 = false) → insT x l = l ++ [x]
  | [], _ => rfl
  | a :: l, h => by
    unfold insT
    rw [if_neg (by rw [h a List.mem_cons_self]; decide), insT_no fun e he => h e (List.mem_cons_of_mem _ he)]
    rfl
theorem insT_new {x e : Nm × Nm} (hx : Op.bytesLess x.1 e.1 = true) : ∀ {l : Tr}, (∀ e ∈ l, Op.bytesLess x.1 e.1 = false) → insT x (l ++ [e]) = l ++ [x] ++ [e]
  | [], _ => by
    show insT x [e] = _
    unfold insT
    rw [if_pos hx]
    rfl
  | a :: l, h => by
    show insT x (a :: (l ++ [e])) = _
    unfold insT
    rw [if_neg (by rw [h a List.mem_cons_self]; decide), insT_new hx fun e he => h e (List.mem_cons_of_mem _ he)]
    rfl
theorem insT_old {x e : Nm × Nm} : ∀ {l : Tr}, (∃ e ∈ l, Op.bytesLess x.1 e.1 = true) → insT x (l ++ [e]) = insT x l ++ [e]
  | [], h => by obtain ⟨_, h, _⟩ := h; cases h
  | a :: l, h => by
    show insT x (a :: (l ++ [e])) = _
    unfold insT
    by_cases ha : Op.bytesLess x.1 a.1 = true
    · rw [if_pos ha, if_pos ha]; rfl
    · rw [if_neg ha, if_neg ha, insT_old]
      · rfl
      · obtain ⟨y, hy, hb⟩ := h
        rcases List.mem_cons.1 hy with rfl | hy
        · exact absurd hb ha
        · exact ⟨y, hy, hb⟩
def InsN (x : Nm × Nm) (t : Tr) (i : Nat) (D : Bool) (out : Tr) : Prop :=
  (D = true ∧ (∃ e ∈ t.take i, Op.bytesLess x.1 e.1 = true) ∧ out = insT x (t.take i)) ∨ (D = false ∧ (∀ e ∈ t.take i, Op.bytesLess x.1 e.1 = false) ∧ out = t.take i)
theorem InsN.len {x : Nm × Nm} {t : Tr} {i : Nat} {D : Bool} {out : Tr} (h : InsN x t i D out) : out.length ≤ i + 1 := by
  have := List.length_take_le i t
  rcases h with ⟨-, -, rfl⟩ | ⟨-, -, rfl⟩
  · rw [insT_len]; omega
  · omega
theorem InsN.done {x : Nm × Nm} {t : Tr} {i : Nat} {out : Tr} {e : Nm × Nm} (h : InsN x t i true out) (he : t[i]? = some e) : InsN x t (i + 1) true (out ++ [e]) := by
  rcases h with ⟨-, h2, rfl⟩ | ⟨h1, -⟩
  · refine .inl ⟨rfl, ?_, ?_⟩
    · obtain ⟨y, hy, hb⟩ := h2
      exact ⟨y, by rw [List.take_add_one]; exact List.mem_append_left _ hy, hb⟩
    · rw [List.take_add_one, he]; exact (insT_old h2).symm
  · cases h1
theorem InsN.here {x : Nm × Nm} {t : Tr} {i : Nat} {out : Tr} {e : Nm × Nm} (h : InsN x t i false out) (he : t[i]? = some e) (hb : Op.bytesLess x.1 e.1 = true) : InsN x t (i + 1) true (out ++ [x] ++ [e]) := by
  rcases h with ⟨h1, -⟩ | ⟨-, h2, rfl⟩
  · cases h1
  · refine .inl ⟨rfl, ⟨e, by rw [List.take_add_one, he]; exact List.mem_append_right _ List.mem_cons_self, hb⟩, ?_⟩
    rw [List.take_add_one, he]
    exact (insT_new hb h2).symm
theorem InsN.next {x : Nm × Nm} {t : Tr} {i : Nat} {out : Tr} {e : Nm × Nm} (h : InsN x t i false out) (he : t[i]? = some e) (hb : Op.bytesLess x.1 e.1 = false) : InsN x t (i + 1) false (out ++ [e]) := by
  rcases h with ⟨h1, -⟩ | ⟨-, h2, rfl⟩
  · cases h1
  · refine .inr ⟨rfl, fun y hy => ?_, by rw [List.take_add_one, he]; rfl⟩
    rw [List.take_add_one, he] at hy
    rcases List.mem_append.1 hy with hy | hy
    · exact h2 y hy
    · cases List.mem_singleton.1 hy; exact hb
theorem InsN.end_t {x : Nm × Nm} {t out : Tr} (h : InsN x t t.length true out) : insT x t = out := by
  rcases h with ⟨-, -, rfl⟩ | ⟨h1, -⟩
  · rw [List.take_length]
  · cases h1
theorem InsN.end_f {x : Nm × Nm} {t out : Tr} (h : InsN x t t.length false out) : insT x t = out ++ [x] := by
  rcases h with ⟨h1, -⟩ | ⟨-, h2, rfl⟩
  · cases h1
  · rw [List.take_length] at h2 ⊢
    exact insT_no h2
set_option maxHeartbeats 16000000 in
theorem rcreate_ok {m : Nat} {w0 : World} {g : Nat} {t : Tr} {l : Hp} (h : RTr g t l) (h0 : 0 < t.length) (hl : t.length ≤ 200) (hd : ∀ e ∈ t, (pathT t e.1).length ≤ 8) (hn : ∀ e ∈ t, e.1.length ≤ 100) (n p : Nm) (hln : n.length ≤ 100) (R : Hp) :
    CallsH Tryz.prog ⟨w0.heap.size, w0, m⟩ 61 [.pointer (some ⟨g, 0, none⟩), S n, S p] (l ++ R) (RDid g (createT (Lab.rightB n) t n p) R) := by
  obtain ⟨v, lN, rfl, hN⟩ := h
  rw [List.cons_append]
  refine callsH1p (args := [.pointer (some ⟨g, 0, none⟩), S n, S p]) Tryz.func61 rfl rfl rfl rfl ?_
  have same : ∀ er : Int, RDid g (er, t) R (I er) ((g, .cells #[v] 89 (0, 0)) :: (lN ++ R)) := fun er => ⟨rfl, _, by rw [← List.cons_append], v, lN, rfl, hN⟩
  have hr := fun w' => Lab.rright_ok n (by omega) w'
  have hh := fun w' (h : TAt w' g t v) => rhas_ok h (by omega) n
  have hq := fun w' (h : TAt w' g t v) => rhas_ok h (by omega) p
  have hpa := fun w' (h : TAt w' g t v) (hk : (pathT t p).length ≤ 8) => rpath_ok h (by omega) 9 (by omega) p (by unfold pathT at hk; omega)
  unfold createT
  cases hx : Lab.rightB n
  · rw [if_pos rfl]
    rw [hx] at hr
    repeat' (first | refine aw_seq ?_ | ((first | apply ao_val | apply aq_val); exact wants_a; (first | exact ov_nilcheck rfl | exact ov_a); (exact rfl)) | refine zy ?_ | refine zon fun _ => ?_ | refine zoa fun vr lr hr => ?_ | ((first | apply ao_call | apply aq_call); exact wants_a; (first | exact oc_func rfl | exact oc_clos rfl rfl | exact oc_bnd rfl rfl); (exact rfl); (first | exact fun w hw => hr w)) | refine zoS (fun _ => ?_) (fun _ => ?_) | refine zqS (fun _ => ?_) (fun _ => ?_) | refine zwS (fun _ => ?_) (fun _ => ?_))
    exact ⟨_, _, hsub_a, List.Perm.refl _, same 1⟩
  rw [if_neg (by decide)]
  rw [hx] at hr
  by_cases hx2 : hasT t n = true
  · rw [if_pos hx2]
    rw [hx2] at hh
    repeat' (first | refine aw_seq ?_ | ((first | apply ao_val | apply aq_val); exact wants_a; (first | exact ov_nilcheck rfl | exact ov_a); (exact rfl)) | refine zy ?_ | refine zon fun _ => ?_ | refine zoa fun vr lr hr => ?_ | ((first | apply ao_call | apply aq_call); exact wants_a; (first | exact oc_func rfl | exact oc_clos rfl rfl | exact oc_bnd rfl rfl); (exact rfl); (first | exact fun w hw => hr w | exact fun w hw => hh w (tAt_of hw has_a hN cut_a))) | refine zoS (fun _ => ?_) (fun _ => ?_) | refine zqS (fun _ => ?_) (fun _ => ?_) | refine zwS (fun _ => ?_) (fun _ => ?_))
    exact ⟨_, _, hsub_a, List.Perm.refl _, same 5⟩
  rw [if_neg hx2]
  rw [show hasT t n = false by simpa using hx2] at hh
  cases hx3 : hasT t p
  · rw [if_pos rfl]
    rw [hx3] at hq
    repeat' (first | refine aw_seq ?_ | ((first | apply ao_val | apply aq_val); exact wants_a; (first | exact ov_nilcheck rfl | exact ov_a); (exact rfl)) | refine zy ?_ | refine zon fun _ => ?_ | refine zoa fun vr lr hr => ?_ | ((first | apply ao_call | apply aq_call); exact wants_a; (first | exact oc_func rfl | exact oc_clos rfl rfl | exact oc_bnd rfl rfl); (exact rfl); (first | exact fun w hw => hr w | exact fun w hw => hh w (tAt_of hw has_a hN cut_a) | exact fun w hw => hq w (tAt_of hw has_a hN cut_a))) | refine zoS (fun _ => ?_) (fun _ => ?_) | refine zqS (fun _ => ?_) (fun _ => ?_) | refine zwS (fun _ => ?_) (fun _ => ?_))
    exact ⟨_, _, hsub_a, List.Perm.refl _, same 4⟩
  rw [if_neg (by decide)]
  rw [hx3] at hq
  have hp8 : (pathT t p).length ≤ 8 := by
    obtain ⟨e, he, rfl⟩ := has_iff.1 hx3
    exact hd e he
  have hpa2 := fun w' h => hpa w' h hp8
  obtain ⟨L, hL⟩ : ∃ L, pathT t p = L := ⟨_, rfl⟩
  rw [show pathN t 9 p = L from hL] at hpa2
  rw [hL] at hp8 ⊢
  clear hpa
  by_cases hx4 : 8 < L.length + 1
  · rw [if_pos hx4]
    repeat' (first | refine aw_seq ?_ | ((first | apply ao_val | apply aq_val); exact wants_a; (first | exact ov_nilcheck rfl | exact ov_lenr rfl (by assumption) | exact ov_a); (exact rfl)) | refine zy ?_ | refine zon fun _ => ?_ | refine zoa fun vr lr hr => ?_ | ((first | apply ao_call | apply aq_call); exact wants_a; (first | exact oc_func rfl | exact oc_clos rfl rfl | exact oc_bnd rfl rfl); (exact rfl); (first | exact fun w hw => hr w | exact fun w hw => hh w (tAt_of hw has_a hN cut_a) | exact fun w hw => hq w (tAt_of hw has_a hN cut_a))) | (apply ao_callr; exact wants_a; (exact oc_func rfl); (exact rfl); (first | exact fun w hw => hpa2 w (tAt_of hw has_a hN cut_a)); intro vr lr hr) | refine zoS (fun _ => ?_) (fun _ => ?_) | refine zqS (fun _ => ?_) (fun _ => ?_) | refine zwS (fun _ => ?_) (fun _ => ?_))
    exact ⟨_, _, hsub_a, List.Perm.refl _, same 9⟩
  rw [if_neg hx4]
  obtain ⟨gN, capN, csN, rfl, rfl, hcap, hlen, htk, hcell⟩ := openB cells2_len hN h0
  by_cases hx5 : 200 < t.length + 1
  · rw [if_pos hx5]
    repeat' (first | refine aw_seq ?_ | ((first | apply ao_val | apply aq_val); exact wants_a; (first | exact ov_nilcheck rfl | exact ov_lenr rfl (by assumption) | exact ov_a); (exact rfl)) | refine zy ?_ | refine zon fun _ => ?_ | refine zoa fun vr lr hr => ?_ | ((first | apply ao_call | apply aq_call); exact wants_a; (first | exact oc_func rfl | exact oc_clos rfl rfl | exact oc_bnd rfl rfl); (exact rfl); (first | exact fun w hw => hr w | exact fun w hw => hh w (tAt_of hw has_a hN cut_a) | exact fun w hw => hq w (tAt_of hw has_a hN cut_a))) | (apply ao_callr; exact wants_a; (exact oc_func rfl); (exact rfl); (first | exact fun w hw => hpa2 w (tAt_of hw has_a hN cut_a)); intro vr lr hr) | refine zoS (fun _ => ?_) (fun _ => ?_) | refine zqS (fun _ => ?_) (fun _ => ?_) | refine zwS (fun _ => ?_) (fun _ => ?_))
    exact ⟨_, _, hsub_a, List.Perm.refl _, same 3⟩
  rw [if_neg hx5]
  repeat' (first | refine aw_seq ?_ | ((first | apply ao_val | apply aq_val); exact wants_a; (first | exact ov_nilcheck rfl | exact ov_lenr rfl (by assumption) | exact ov_a); (exact rfl)) | refine zy ?_ | refine zon fun _ => ?_ | refine zoa fun vr lr hr => ?_ | ((first | apply ao_call | apply aq_call); exact wants_a; (first | exact oc_func rfl | exact oc_clos rfl rfl | exact oc_bnd rfl rfl); (exact rfl); (first | exact fun w hw => hr w | exact fun w hw => hh w (tAt_of hw has_a hN cut_a) | exact fun w hw => hq w (tAt_of hw has_a hN cut_a))) | (apply ao_callr; exact wants_a; (exact oc_func rfl); (exact rfl); (first | exact fun w hw => hpa2 w (tAt_of hw has_a hN cut_a)); intro vr lr hr) | refine zoS (fun _ => ?_) (fun _ => ?_) | refine zqS (fun _ => ?_) (fun _ => ?_) | refine zwS (fun _ => ?_) (fun _ => ?_))
  refine aw_forH (t0 := [(0, .pointer (some ⟨g, 0, none⟩)), (1, S n), (2, S p), (8, .slice none 0 0), (9, .bool false), (10, I (0 : Nat))]) (fun q tm H => ∃ (i : Nat) (D : Bool) (out : Tr) (v5 : Value) (l5 : Hp), q = t.length - i ∧ i ≤ t.length ∧ InsN (n, p) t i D out ∧ RowB 91 2 v5 l5 out.length (out.flatMap cells2) ∧ tm = [(0, .pointer (some ⟨g, 0, none⟩)), (1, S n), (2, S p), (8, v5), (9, .bool D), (10, I i)] ∧ H = l5 ++ ((g, .cells #[.slice (some ⟨gN, 0, none⟩) t.length capN] 89 (0, 0)) :: ((gN, .cells csN.toArray 91 (0, 0)) :: R)))
    ⟨0, false, [], _, [], rfl, by omega, .inr ⟨rfl, (fun e he => by rw [List.take_zero] at he; cases he), rfl⟩, RowB.nil, rfl, rfl⟩ (by repeat (first | exact sub_nil | refine sub_cons rfl ?_)) hsub_a ?_
  clear hr hh hq hpa2
  rintro q tm H ⟨i, D, out, v5, l5, rfl, hi, hins, r5, rfl, rfl⟩
  obtain ⟨a5, c5, hv5⟩ := r5.len
  subst hv5
  have hlo := hins.len
  have hfo := flat2 out
  by_cases hlt : i < t.length
  · obtain ⟨⟨x, y⟩, he⟩ := getP hlt
    have cX : csN[0 + (i : Int).toNat * 2 + 0]? = some (S x) := hcell i _ (i : Int) 0 _ he rfl rfl
    have slX : sl (0 + (i : Int).toNat * 2) 2 csN = some [S x, S y] := sl_of (vs := cells2 (x, y)) (.inl (Nat.zero_lt_succ _)) fun j y hj => hcell i _ (i : Int) j y he rfl hj
    have hx100 := hn _ (List.mem_of_getElem? he)
    simp only at hx100
    have hb := fun w' => Lab.before_ok n x (by omega) (by omega) w'
    cases D
    · cases hbl : Op.bytesLess n x
      · rw [hbl] at hb
        repeat' (first | refine aw_seq ?_ | ((first | apply ao_val | apply aq_val); exact wants_a; (first | exact ov_nilcheck rfl | exact ov_a); (exact rfl)) | refine zy ?_ | refine zon fun _ => ?_ | refine zoa fun vr lr hr => ?_ | ((first | apply ao_call | apply aq_call); exact wants_a; (first | exact oc_func rfl | exact oc_clos rfl rfl | exact oc_bnd rfl rfl); (exact rfl); (first | exact fun w hw => hb w)) | refine zoS (fun _ => ?_) (fun _ => ?_) | refine zqS (fun _ => ?_) (fun _ => ?_) | refine zwS (fun _ => ?_) (fun _ => ?_))
        exact lq_normal' ⟨i + 1, _, _, _, _, rfl, by omega, hins.next he hbl, row2 (by assumption), rfl, rfl⟩ (by omega) (by repeat (first | exact sub_nil | refine sub_cons rfl ?_)) hsub_a
      · rw [hbl] at hb
        repeat' (first | refine aw_seq ?_ | ((first | apply ao_val | apply aq_val); exact wants_a; (first | exact ov_nilcheck rfl | exact ov_a); (exact rfl)) | refine zy ?_ | refine zon fun _ => ?_ | refine zoa fun vr lr hr => ?_ | ((first | apply ao_call | apply aq_call); exact wants_a; (first | exact oc_func rfl | exact oc_clos rfl rfl | exact oc_bnd rfl rfl); (exact rfl); (first | exact fun w hw => hb w)) | refine zoS (fun _ => ?_) (fun _ => ?_) | refine zqS (fun _ => ?_) (fun _ => ?_) | refine zwS (fun _ => ?_) (fun _ => ?_))
        exact lq_normal' ⟨i + 1, _, _, _, _, rfl, by omega, hins.here he hbl, row22 (by assumption), rfl, rfl⟩ (by omega) (by repeat (first | exact sub_nil | refine sub_cons rfl ?_)) hsub_a
    · cases hbl : Op.bytesLess n x
      · rw [hbl] at hb
        repeat' (first | refine aw_seq ?_ | ((first | apply ao_val | apply aq_val); exact wants_a; (first | exact ov_nilcheck rfl | exact ov_a); (exact rfl)) | refine zy ?_ | refine zon fun _ => ?_ | refine zoa fun vr lr hr => ?_ | ((first | apply ao_call | apply aq_call); exact wants_a; (first | exact oc_func rfl | exact oc_clos rfl rfl | exact oc_bnd rfl rfl); (exact rfl); (first | exact fun w hw => hb w)) | refine zoS (fun _ => ?_) (fun _ => ?_) | refine zqS (fun _ => ?_) (fun _ => ?_) | refine zwS (fun _ => ?_) (fun _ => ?_))
        exact lq_normal' ⟨i + 1, _, _, _, _, rfl, by omega, hins.done he, row2 (by assumption), rfl, rfl⟩ (by omega) (by repeat (first | exact sub_nil | refine sub_cons rfl ?_)) hsub_a
      · rw [hbl] at hb
        repeat' (first | refine aw_seq ?_ | ((first | apply ao_val | apply aq_val); exact wants_a; (first | exact ov_nilcheck rfl | exact ov_a); (exact rfl)) | refine zy ?_ | refine zon fun _ => ?_ | refine zoa fun vr lr hr => ?_ | ((first | apply ao_call | apply aq_call); exact wants_a; (first | exact oc_func rfl | exact oc_clos rfl rfl | exact oc_bnd rfl rfl); (exact rfl); (first | exact fun w hw => hb w)) | refine zoS (fun _ => ?_) (fun _ => ?_) | refine zqS (fun _ => ?_) (fun _ => ?_) | refine zwS (fun _ => ?_) (fun _ => ?_))
        exact lq_normal' ⟨i + 1, _, _, _, _, rfl, by omega, hins.done he, row2 (by assumption), rfl, rfl⟩ (by omega) (by repeat (first | exact sub_nil | refine sub_cons rfl ?_)) hsub_a
  · obtain rfl : i = t.length := by omega
    cases D
    · rw [hins.end_f]
      repeat' (first | refine aw_seq ?_ | ((first | apply ao_val | apply aq_val); exact wants_a; (first | exact ov_nilcheck rfl | exact ov_a); (exact rfl)) | refine zy ?_ | refine zon fun _ => ?_ | refine zoa fun vr lr hr => ?_ | refine zoS (fun _ => ?_) (fun _ => ?_) | refine zqS (fun _ => ?_) (fun _ => ?_) | refine zwS (fun _ => ?_) (fun _ => ?_))
      obtain ⟨a6, c6, hv6⟩ := hr.len
      subst hv6
      repeat' (first | refine aw_seq ?_ | ((first | apply ao_val | apply aq_val); exact wants_a; (first | exact ov_nilcheck rfl | exact ov_a); (exact rfl)) | refine zy ?_ | refine zon fun _ => ?_ | refine zoa fun vr lr hr => ?_ | refine zoS (fun _ => ?_) (fun _ => ?_) | refine zqS (fun _ => ?_) (fun _ => ?_) | refine zwS (fun _ => ?_) (fun _ => ?_))
      exact ⟨lr ++ ((g, .cells #[.slice a6 (out.length + 1) c6] 89 (0, 0)) :: R), _, hsub_a, perm_m, rfl, _, rfl, _, _, rfl, row2 hr⟩
    · rw [hins.end_t]
      repeat' (first | refine aw_seq ?_ | ((first | apply ao_val | apply aq_val); exact wants_a; (first | exact ov_nilcheck rfl | exact ov_a); (exact rfl)) | refine zy ?_ | refine zon fun _ => ?_ | refine zoa fun vr lr hr => ?_ | refine zoS (fun _ => ?_) (fun _ => ?_) | refine zqS (fun _ => ?_) (fun _ => ?_) | refine zwS (fun _ => ?_) (fun _ => ?_))
      exact ⟨l5 ++ ((g, .cells #[.slice a5 out.length c5] 89 (0, 0)) :: R), _, hsub_a, perm_m, rfl, _, rfl, _, _, rfl, r5⟩
end Trt
end Go.Proofs.YtkjjlppfomidbaaGreat
/- Trq: The document's answer for layer 11 in the own heap: Move; conditions: at most 200 nodes. -/
namespace Go.Proofs.YtkjjlppfomidbaaGreat
namespace Trt
open Go Go.RowKit Sx
attribute [local irreducible] Go.Calls
theorem setP_take (t : Tr) (n p : Nm) {i : Nat} {e : Nm × Nm} (he : t[i]? = some e) : setP (t.take (i + 1)) n p = setP (t.take i) n p ++ [if e.1 = n then (n, p) else e] := by
  unfold setP
  rw [List.take_add_one, he, List.map_append]
  rfl
theorem setP_len (t : Tr) (n p : Nm) : (setP t n p).length = t.length := List.length_map _
theorem setP_at {t : Tr} {n p : Nm} {i : Nat} {x y : Nm} (he : t[i]? = some (x, y)) : (setP t n p)[i]? = some (x, if x = n then p else y) := by
  unfold setP
  rw [List.getElem?_map, he]
  simp only [Option.map_some]
  by_cases h : x = n
  · rw [if_pos h, if_pos h, h]
  · rw [if_neg h, if_neg h]
theorem long_iff (t : Tr) (s : Nm) : 8 < (pathN t 17 s).length ↔ 8 < (pathT t s).length := by
  unfold pathT
  rw [pathN_take t 9 17 s (by omega), List.length_take]
  omega
set_option maxHeartbeats 32000000 in
theorem rmove_ok {m : Nat} {w0 : World} {g : Nat} {t : Tr} {l : Hp} (h : RTr g t l) (hw : WfT t) (h0 : 0 < t.length) (hl : t.length ≤ 200) (n p : Nm) (R : Hp) :
    CallsH Tryz.prog ⟨w0.heap.size, w0, m⟩ 59 [.pointer (some ⟨g, 0, none⟩), S n, S p] (l ++ R) (RDid g (moveT t n p) R) := by
  obtain ⟨v, lN, rfl, hN⟩ := h
  rw [List.cons_append]
  refine callsH1p (args := [.pointer (some ⟨g, 0, none⟩), S n, S p]) Tryz.func59 rfl rfl rfl rfl ?_
  have same : ∀ er : Int, RDid g (er, t) R (I er) ((g, .cells #[v] 89 (0, 0)) :: (lN ++ R)) := fun er => ⟨rfl, _, by rw [← List.cons_append], v, lN, rfl, hN⟩
  have hh := fun w' (h : TAt w' g t v) => rhas_ok h (by omega) n
  have hq := fun w' (h : TAt w' g t v) => rhas_ok h (by omega) p
  have hpa := fun w' (h : TAt w' g t v) (hk : (pathT t p).length ≤ 8) => rpath_ok h (by omega) 9 (by omega) p (by unfold pathT at hk; omega)
  unfold moveT
  cases hx2 : hasT t n
  · rw [if_pos (.inl rfl)]
    rw [hx2] at hh
    repeat' (first | refine aw_seq ?_ | ((first | apply ao_val | apply aq_val); exact wants_a; (first | exact ov_nilcheck rfl | exact ov_a); (exact rfl)) | refine zy ?_ | refine zon fun _ => ?_ | refine zoa fun vr lr hr => ?_ | ((first | apply ao_call | apply aq_call); exact wants_a; (first | exact oc_func rfl | exact oc_clos rfl rfl | exact oc_bnd rfl rfl); (exact rfl); (first | exact fun w hw => hh w (tAt_of hw has_a hN cut_a))) | refine zoS (fun _ => ?_) (fun _ => ?_) | refine zqS (fun _ => ?_) (fun _ => ?_) | refine zwS (fun _ => ?_) (fun _ => ?_))
    exact ⟨_, _, hsub_a, List.Perm.refl _, same 4⟩
  rw [hx2] at hh
  cases hx3 : hasT t p
  · rw [if_pos (.inr rfl)]
    rw [hx3] at hq
    repeat' (first | refine aw_seq ?_ | ((first | apply ao_val | apply aq_val); exact wants_a; (first | exact ov_nilcheck rfl | exact ov_a); (exact rfl)) | refine zy ?_ | refine zon fun _ => ?_ | refine zoa fun vr lr hr => ?_ | ((first | apply ao_call | apply aq_call); exact wants_a; (first | exact oc_func rfl | exact oc_clos rfl rfl | exact oc_bnd rfl rfl); (exact rfl); (first | exact fun w hw => hh w (tAt_of hw has_a hN cut_a) | exact fun w hw => hq w (tAt_of hw has_a hN cut_a))) | refine zoS (fun _ => ?_) (fun _ => ?_) | refine zqS (fun _ => ?_) (fun _ => ?_) | refine zwS (fun _ => ?_) (fun _ => ?_))
    exact ⟨_, _, hsub_a, List.Perm.refl _, same 4⟩
  rw [hx3] at hq
  rw [if_neg (by simp)]
  by_cases hrt : n = rootN
  · rw [if_pos hrt]
    subst hrt
    repeat' (first | refine aw_seq ?_ | ((first | apply ao_val | apply aq_val); exact wants_a; (first | exact ov_nilcheck rfl | exact ov_a); (exact rfl)) | refine zy ?_ | refine zon fun _ => ?_ | refine zoa fun vr lr hr => ?_ | ((first | apply ao_call | apply aq_call); exact wants_a; (first | exact oc_func rfl | exact oc_clos rfl rfl | exact oc_bnd rfl rfl); (exact rfl); (first | exact fun w hw => hh w (tAt_of hw has_a hN cut_a) | exact fun w hw => hq w (tAt_of hw has_a hN cut_a))) | refine zoS (fun _ => ?_) (fun _ => ?_) | refine zqS (fun _ => ?_) (fun _ => ?_) | refine zwS (fun _ => ?_) (fun _ => ?_))
    exact ⟨_, _, hsub_a, List.Perm.refl _, same 1⟩
  rw [if_neg hrt]
  have er : (n == rootN) = false := beq_eq_false_iff_ne.2 hrt
  have hp8 : (pathT t p).length ≤ 8 := by
    obtain ⟨e, he, rfl⟩ := has_iff.1 hx3
    exact hw.deep e he
  have hend := fun hc => hw.set_end hx2 hx3 hc 8
  have hpa2 := fun w' h => hpa w' h hp8
  obtain ⟨L, hL⟩ : ∃ L, pathT t p = L := ⟨_, rfl⟩
  rw [show pathN t 9 p = L from hL] at hpa2
  rw [hL] at hp8 hend ⊢
  clear hpa
  by_cases hcy : n ∈ L
  · rw [if_pos hcy]
    have hin := fun v w' (hv : OldRow w' 1 v L.length (L.flatMap cells1)) => rin_ok L (by omega) n v w' hv
    rw [decide_eq_true hcy] at hin
    repeat' (first | refine aw_seq ?_ | ((first | apply ao_val | apply aq_val); exact wants_a; (first | exact ov_nilcheck rfl | exact ov_a); (exact rfl)) | refine zy ?_ | refine zon fun _ => ?_ | refine zoa fun vr lr hr => ?_ | ((first | apply ao_call | apply aq_call); exact wants_a; (first | exact oc_func rfl | exact oc_clos rfl rfl | exact oc_bnd rfl rfl); (exact rfl); (first | exact fun w hw => hh w (tAt_of hw has_a hN cut_a) | exact fun w hw => hq w (tAt_of hw has_a hN cut_a) | exact fun w hw => hin _ w (hw.oldr hr cut_a))) | (apply ao_callr; exact wants_a; (exact oc_func rfl); (exact rfl); (first | exact fun w hw => hpa2 w (tAt_of hw has_a hN cut_a)); intro vr lr hr) | refine zoS (fun _ => ?_) (fun _ => ?_) | refine zqS (fun _ => ?_) (fun _ => ?_) | refine zwS (fun _ => ?_) (fun _ => ?_))
    exact ⟨_, _, hsub_a, List.Perm.refl _, same 8⟩
  rw [if_neg hcy]
  have hin := fun v w' (hv : OldRow w' 1 v L.length (L.flatMap cells1)) => rin_ok L (by omega) n v w' hv
  rw [decide_eq_false hcy] at hin
  have hend := fun e he => hend hcy e he (hw.deep e he)
  obtain ⟨gN, capN, csN, rfl, rfl, hcap, hlen, htk, hcell⟩ := openB cells2_len hN h0
  repeat' (first | refine aw_seq ?_ | ((first | apply ao_val | apply aq_val); exact wants_a; (first | exact ov_nilcheck rfl | exact ov_a); (exact rfl)) | refine zy ?_ | refine zon fun _ => ?_ | refine zoa fun vr lr hr => ?_ | ((first | apply ao_call | apply aq_call); exact wants_a; (first | exact oc_func rfl | exact oc_clos rfl rfl | exact oc_bnd rfl rfl); (exact rfl); (first | exact fun w hw => hh w (tAt_of hw has_a hN cut_a) | exact fun w hw => hq w (tAt_of hw has_a hN cut_a) | exact fun w hw => hin _ w (hw.oldr hr cut_a))) | (apply ao_callr; exact wants_a; (exact oc_func rfl); (exact rfl); (first | exact fun w hw => hpa2 w (tAt_of hw has_a hN cut_a)); intro vr lr hr) | refine zoS (fun _ => ?_) (fun _ => ?_) | refine zqS (fun _ => ?_) (fun _ => ?_) | refine zwS (fun _ => ?_) (fun _ => ?_))
  rename_i b8
  clear hh hq hpa2 hin
  refine aw_forH (t0 := [(0, .pointer (some ⟨g, 0, none⟩)), (1, S n), (2, S p), (8, .pointer (some ⟨b8, 0, none⟩)), (9, I (0 : Nat))]) (fun q tm H => ∃ (i : Nat) (v5 : Value) (l5 : Hp), q = t.length - i ∧ i ≤ t.length ∧ RowB 91 2 v5 l5 (setP (t.take i) n p).length ((setP (t.take i) n p).flatMap cells2) ∧ tm = [(0, .pointer (some ⟨g, 0, none⟩)), (1, S n), (2, S p), (8, .pointer (some ⟨b8, 0, none⟩)), (9, I i)] ∧ H.Perm ((b8, .cells #[v5] 89 (0, 0)) :: (l5 ++ ((g, .cells #[.slice (some ⟨gN, 0, none⟩) t.length capN] 89 (0, 0)) :: ((gN, .cells csN.toArray 91 (0, 0)) :: R)))))
    ⟨0, .slice none 0 0, [], rfl, by omega, RowB.nil, rfl, List.Perm.refl _⟩ (by repeat (first | exact sub_nil | refine sub_cons rfl ?_)) hsub_a ?_
  rintro q tm H ⟨i, v5, l5, rfl, hi, r5, rfl, hp⟩
  refine aw_permH hp ?_
  clear hp
  obtain ⟨a5, c5, hv5⟩ := r5.len
  subst hv5
  have hlo : (setP (t.take i) n p).length ≤ i := by rw [setP_len]; exact List.length_take_le _ _
  have hfo := flat2 (setP (t.take i) n p)
  by_cases hlt : i < t.length
  · obtain ⟨⟨x, y⟩, he⟩ := getP hlt
    have slX : sl (0 + (i : Int).toNat * 2) 2 csN = some [S x, S y] := sl_of (vs := cells2 (x, y)) (.inl (Nat.zero_lt_succ _)) fun j y hj => hcell i _ (i : Int) j y he rfl hj
    have hnx := setP_take t n p he
    simp only at hnx
    by_cases hk : x = n
    · rw [if_pos hk] at hnx
      subst hk
      have ek : (x == x) = true := beq_self_eq_true _
      repeat' (first | refine zhn ?_ | refine ah_end ?_ | (apply ah_one; (exact rfl)) | (apply ah_two; (exact rfl); (exact rfl)) | (apply ah_three; (exact rfl); (exact rfl); (exact rfl)) | (apply aw_held (id := 15) (pl := (.t 0 (.t 1 (.t 2 (.t 3 (.t 5 (.w 4 (.o 6 (.o 7 (.t 8 (.t 9 (.o 10 .e))))) 6 (.o 4 (.o 7 (.t 8 (.t 9 (.o 10 .e)))))))))))); (kernel_rfl); (kernel_rfl); (kernel_rfl); (solve | (apply hs_keep; apply hs_skip; apply hs_app0; apply hs_keep; apply hs_keep; exact List.Sublist.refl _))) | refine aw_seq ?_ | ((first | apply ao_val | apply aq_val | (apply ah_take; (exact rfl))); exact wants_a; (first | exact ov_nilcheck rfl | exact ov_a); (exact rfl)) | refine zu ?_ | (refine aw_is ?_; refine zwd ?_) | refine zhk ?_ | refine zhT ?_ | refine zhF ?_ | refine zon fun _ => ?_ | refine zoa fun vr lr hr => ?_ | refine zoS (fun _ => ?_) (fun _ => ?_) | refine zqS (fun _ => ?_) (fun _ => ?_) | refine zwS (fun _ => ?_) (fun _ => ?_))
      all_goals revert vr lr hr
      all_goals intro v1 l1 hrow
      all_goals obtain ⟨x1, y1, hx1⟩ := hrow.len
      all_goals subst hx1
      repeat' (first | refine zhn ?_ | refine ah_end ?_ | (apply ah_one; (exact rfl)) | (apply ah_two; (exact rfl); (exact rfl)) | (apply ah_three; (exact rfl); (exact rfl); (exact rfl)) | (apply aw_held (id := 15) (pl := (.t 0 (.t 1 (.t 2 (.t 3 (.t 5 (.w 4 (.o 6 (.o 7 (.t 8 (.t 9 (.o 10 .e))))) 6 (.o 4 (.o 7 (.t 8 (.t 9 (.o 10 .e)))))))))))); (kernel_rfl); (kernel_rfl); (kernel_rfl); (solve | (apply hs_keep; apply hs_skip; apply hs_app0; apply hs_keep; apply hs_keep; exact List.Sublist.refl _))) | refine aw_seq ?_ | ((first | apply ao_val | apply aq_val | (apply ah_take; (exact rfl))); exact wants_a; (first | exact ov_nilcheck rfl | exact ov_a); (exact rfl)) | refine zu ?_ | (refine aw_is ?_; refine zwd ?_) | refine zhk ?_ | refine zhT ?_ | refine zhF ?_ | refine zon fun _ => ?_ | refine zoa fun vr lr hr => ?_ | refine zoS (fun _ => ?_) (fun _ => ?_) | refine zqS (fun _ => ?_) (fun _ => ?_) | refine zwS (fun _ => ?_) (fun _ => ?_))
      all_goals exact lq_normal' (H' := l1 ++ ((b8, .cells #[.slice x1 _ y1] 89 (0, 0)) :: ((g, .cells #[.slice (some ⟨gN, 0, none⟩) t.length capN] 89 (0, 0)) :: ((gN, .cells csN.toArray 91 (0, 0)) :: R)))) ⟨i + 1, _, _, rfl, by omega, by rw [hnx]; exact row2 hrow, rfl, List.perm_middle⟩ (by omega) (by repeat (first | exact sub_nil | refine sub_cons rfl ?_)) hsub_a
    · rw [if_neg hk] at hnx
      have ek : (x == n) = false := beq_eq_false_iff_ne.2 hk
      repeat' (first | refine zhn ?_ | refine ah_end ?_ | (apply ah_one; (exact rfl)) | (apply ah_two; (exact rfl); (exact rfl)) | (apply ah_three; (exact rfl); (exact rfl); (exact rfl)) | (apply aw_held (id := 15) (pl := (.t 0 (.t 1 (.t 2 (.t 3 (.t 5 (.w 4 (.o 6 (.o 7 (.t 8 (.t 9 (.o 10 .e))))) 6 (.o 4 (.o 7 (.t 8 (.t 9 (.o 10 .e)))))))))))); (kernel_rfl); (kernel_rfl); (kernel_rfl); (solve | (apply hs_keep; apply hs_skip; apply hs_app0; apply hs_keep; apply hs_keep; exact List.Sublist.refl _))) | refine aw_seq ?_ | ((first | apply ao_val | apply aq_val | (apply ah_take; (exact rfl))); exact wants_a; (first | exact ov_nilcheck rfl | exact ov_a); (exact rfl)) | refine zu ?_ | (refine aw_is ?_; refine zwd ?_) | refine zhk ?_ | refine zhT ?_ | refine zhF ?_ | refine zon fun _ => ?_ | refine zoa fun vr lr hr => ?_ | refine zoS (fun _ => ?_) (fun _ => ?_) | refine zqS (fun _ => ?_) (fun _ => ?_) | refine zwS (fun _ => ?_) (fun _ => ?_))
      all_goals revert vr lr hr
      all_goals intro v1 l1 hrow
      all_goals obtain ⟨x1, y1, hx1⟩ := hrow.len
      all_goals subst hx1
      repeat' (first | refine zhn ?_ | refine ah_end ?_ | (apply ah_one; (exact rfl)) | (apply ah_two; (exact rfl); (exact rfl)) | (apply ah_three; (exact rfl); (exact rfl); (exact rfl)) | (apply aw_held (id := 15) (pl := (.t 0 (.t 1 (.t 2 (.t 3 (.t 5 (.w 4 (.o 6 (.o 7 (.t 8 (.t 9 (.o 10 .e))))) 6 (.o 4 (.o 7 (.t 8 (.t 9 (.o 10 .e)))))))))))); (kernel_rfl); (kernel_rfl); (kernel_rfl); (solve | (apply hs_keep; apply hs_skip; apply hs_app0; apply hs_keep; apply hs_keep; exact List.Sublist.refl _))) | refine aw_seq ?_ | ((first | apply ao_val | apply aq_val | (apply ah_take; (exact rfl))); exact wants_a; (first | exact ov_nilcheck rfl | exact ov_a); (exact rfl)) | refine zu ?_ | (refine aw_is ?_; refine zwd ?_) | refine zhk ?_ | refine zhT ?_ | refine zhF ?_ | refine zon fun _ => ?_ | refine zoa fun vr lr hr => ?_ | refine zoS (fun _ => ?_) (fun _ => ?_) | refine zqS (fun _ => ?_) (fun _ => ?_) | refine zwS (fun _ => ?_) (fun _ => ?_))
      all_goals exact lq_normal' (H' := l1 ++ ((b8, .cells #[.slice x1 _ y1] 89 (0, 0)) :: ((g, .cells #[.slice (some ⟨gN, 0, none⟩) t.length capN] 89 (0, 0)) :: ((gN, .cells csN.toArray 91 (0, 0)) :: R)))) ⟨i + 1, _, _, rfl, by omega, by rw [hnx]; exact row2 hrow, rfl, List.perm_middle⟩ (by omega) (by repeat (first | exact sub_nil | refine sub_cons rfl ?_)) hsub_a
  · obtain rfl : i = t.length := by omega
    rw [List.take_length, setP_len] at hlo
    have e2l : (setP (t.take t.length) n p) = setP t n p := by rw [List.take_length]
    obtain ⟨T2, hT2⟩ : ∃ T2, setP t n p = T2 := ⟨_, rfl⟩
    have hlen2 : T2.length = t.length := by rw [← hT2, setP_len]
    rw [e2l, hT2] at r5
    rw [e2l, hT2]
    rw [hT2] at hend
    have hpt := fun w' (h : TAt w' b8 T2 (.slice a5 T2.length c5)) s (hs : (pathN T2 17 s).length < 17) => rpath_ok h (by omega) 17 (by omega) s hs
    obtain ⟨g5, cap5, cs5, hv5, rfl, -, -, -, hcell5⟩ := openB cells2_len r5 (by omega)
    cases hv5
    repeat' (first | refine aw_seq ?_ | ((first | apply ao_val | apply aq_val); exact wants_a; (first | exact ov_nilcheck rfl | exact ov_a); (exact rfl)) | refine zy ?_ | refine zon fun _ => ?_ | refine zoa fun vr lr hr => ?_ | refine zoS (fun _ => ?_) (fun _ => ?_) | refine zqS (fun _ => ?_) (fun _ => ?_) | refine zwS (fun _ => ?_) (fun _ => ?_))
    refine aw_forH (t0 := [(0, .pointer (some ⟨g, 0, none⟩)), (8, .pointer (some ⟨b8, 0, none⟩)), (11, I (0 : Nat))]) (fun q tm H => ∃ i : Nat, q = t.length - i ∧ i ≤ t.length ∧ (∀ (j : Nat) e, j < i → t[j]? = some e → ¬ 8 < (pathT T2 e.1).length) ∧ tm = [(0, .pointer (some ⟨g, 0, none⟩)), (8, .pointer (some ⟨b8, 0, none⟩)), (11, I i)] ∧ H = (b8, .cells #[.slice (some ⟨g5, 0, none⟩) T2.length c5] 89 (0, 0)) :: ((g5, .cells cs5.toArray 91 (0, 0)) :: ((g, .cells #[.slice (some ⟨gN, 0, none⟩) t.length capN] 89 (0, 0)) :: ((gN, .cells csN.toArray 91 (0, 0)) :: R))))
      ⟨0, rfl, by omega, fun j e hj => by omega, rfl, rfl⟩ (by repeat (first | exact sub_nil | refine sub_cons rfl ?_)) hsub_a ?_
    rintro q tm H ⟨i, rfl, hi, hall, rfl, rfl⟩
    by_cases hlt : i < t.length
    · obtain ⟨⟨x, y⟩, he⟩ := getP hlt
      have he2 := setP_at (n := n) (p := p) he
      rw [hT2] at he2
      have cX : cs5[0 + (i : Int).toNat * 2 + 0]? = some (S x) := hcell5 i _ (i : Int) 0 _ he2 rfl rfl
      have hx17 : (pathN T2 17 x).length ≤ 16 := hend _ (List.mem_of_getElem? he)
      have hli := long_iff T2 x
      have hpx := fun w' h => hpt w' h x (by omega)
      generalize pathN T2 17 x = P at hpx hli hx17
      by_cases h8 : 8 < P.length
      · have hany : (T2.any fun e => decide (8 < (pathT T2 e.1).length)) = true := by
          rw [List.any_eq_true]
          exact ⟨_, List.mem_of_getElem? he2, decide_eq_true (hli.1 h8)⟩
        rw [if_pos hany]
        repeat' (first | refine aw_seq ?_ | ((first | apply ao_val | apply aq_val); exact wants_a; (first | exact ov_nilcheck rfl | exact ov_lenr rfl (by assumption) | exact ov_a); (exact rfl)) | refine zy ?_ | refine zon fun _ => ?_ | refine zoa fun vr lr hr => ?_ | (apply ao_callr; exact wants_a; (exact oc_func rfl); (exact rfl); (first | exact fun w hw => hpx w (tAt_of hw has_a r5 cut_a)); intro vr lr hr) | refine zoS (fun _ => ?_) (fun _ => ?_) | refine zqS (fun _ => ?_) (fun _ => ?_) | refine zwS (fun _ => ?_) (fun _ => ?_))
        exact ⟨_, _, hsub_a, List.Perm.refl _, same 9⟩
      · repeat' (first | refine aw_seq ?_ | ((first | apply ao_val | apply aq_val); exact wants_a; (first | exact ov_nilcheck rfl | exact ov_lenr rfl (by assumption) | exact ov_a); (exact rfl)) | refine zy ?_ | refine zon fun _ => ?_ | refine zoa fun vr lr hr => ?_ | (apply ao_callr; exact wants_a; (exact oc_func rfl); (exact rfl); (first | exact fun w hw => hpx w (tAt_of hw has_a r5 cut_a)); intro vr lr hr) | refine zoS (fun _ => ?_) (fun _ => ?_) | refine zqS (fun _ => ?_) (fun _ => ?_) | refine zwS (fun _ => ?_) (fun _ => ?_))
        exact lq_normal' ⟨i + 1, rfl, by omega, fun j e hj hje => by
          by_cases e1 : j = i
          · subst e1; rw [he] at hje; cases hje; exact fun h => h8 (hli.2 h)
          · exact hall j e (by omega) hje, rfl, rfl⟩ (by omega) (by repeat (first | exact sub_nil | refine sub_cons rfl ?_)) hsub_a
    · obtain rfl : i = t.length := by omega
      have hany : ¬ (T2.any fun e => decide (8 < (pathT T2 e.1).length)) = true := by
        rw [List.any_eq_true]
        rintro ⟨e, he, h8⟩
        rw [← hT2] at he
        unfold setP at he
        obtain ⟨x, hx, rfl⟩ := List.mem_map.1 he
        obtain ⟨j, hj⟩ := List.getElem?_of_mem hx
        have h9 := hall j x (List.getElem?_eq_some_iff.1 hj).1 hj
        have e1 : (if x.1 = n then (n, p) else x).1 = x.1 := by
          split
          · rename_i h; exact h.symm
          · rfl
        rw [e1] at h8
        exact h9 (of_decide_eq_true h8)
      rw [if_neg hany]
      repeat' (first | refine aw_seq ?_ | ((first | apply ao_val | apply aq_val); exact wants_a; (first | exact ov_nilcheck rfl | exact ov_a); (exact rfl)) | refine zy ?_ | refine zon fun _ => ?_ | refine zoa fun vr lr hr => ?_ | refine zoS (fun _ => ?_) (fun _ => ?_) | refine zqS (fun _ => ?_) (fun _ => ?_) | refine zwS (fun _ => ?_) (fun _ => ?_))
      exact ⟨(g5, .cells cs5.toArray 91 (0, 0)) :: ((g, .cells #[.slice (some ⟨g5, 0, none⟩) T2.length c5] 89 (0, 0)) :: R), _, hsub_a, List.Perm.swap _ _ _, rfl, _, rfl, _, _, rfl, r5⟩
end Trt
end Go.Proofs.YtkjjlppfomidbaaGreat
