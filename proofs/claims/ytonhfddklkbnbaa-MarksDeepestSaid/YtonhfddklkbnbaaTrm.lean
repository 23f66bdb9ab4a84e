/- The document's answer for layer 11: a tree in a world; Has, Parent, Path, In, Children, All, Below; conditions: at most 1,000 nodes. -/
import Derived.Test.YtonhfddklkbnbaaTrd
import Derived.Test.YtonhfddklkbnbaaTxa
namespace Go.Proofs.Ytonhfddklkbnbaa
namespace Trt
open Go Go.RowKit Sx
attribute [local irreducible] Go.Calls

def cells2 (e : Nm × Nm) : List Value := [S e.1, S e.2]
theorem cells2_len (e : Nm × Nm) : (cells2 e).length = 2 := rfl
/-- The document's tree as a world has it. -/
structure TAt (w : World) (g : Nat) (t : Tr) (v : Value) : Prop where
  lt : g < w.heap.size
  c0 : w.cell? ⟨g, 0, none⟩ = some v
  ns : OldRow w 2 v t.length (t.flatMap cells2)
theorem TAt.below {w w' : World} {g : Nat} {t : Tr} {v : Value} (h : TAt w g t v) (hb : Below w.heap.size w w') : TAt w' g t v :=
  ⟨Nat.lt_of_lt_of_le h.lt hb.size, (hb.cell h.lt).trans h.c0, OldRow.below h.ns hb⟩
theorem has_f {t : Tr} {s : Nm} (h : ∀ (j : Nat) e, t[j]? = some e → e.1 ≠ s) : hasT t s = false := by
  cases hs : hasT t s
  · rfl
  · obtain ⟨e, he, hk⟩ := has_iff.1 hs
    obtain ⟨j, hj⟩ := List.getElem?_of_mem he
    exact absurd hk (h j e hj)
theorem par_first {t : Tr} {s : Nm} {i : Nat} {e : Nm × Nm} (he : t[i]? = some e) (hk : e.1 = s) (h : ∀ (j : Nat) e, j < i → t[j]? = some e → e.1 ≠ s) : parT t s = e.2 := by
  unfold parT
  rw [show t.find? (fun x => decide (x.1 = s)) = some e by
    rw [List.find?_eq_some_iff_getElem]
    refine ⟨decide_eq_true hk, i, (List.getElem?_eq_some_iff.1 he).1, (List.getElem?_eq_some_iff.1 he).2, fun j hj => ?_⟩
    have := h j _ hj (List.getElem?_eq_getElem (by have := (List.getElem?_eq_some_iff.1 he).1; omega))
    simpa using this]
set_option maxHeartbeats 8000000 in
theorem rhas_ok {w : World} {g : Nat} {t : Tr} {v : Value} (h : TAt w g t v) (hl : t.length ≤ 1000) (s : Nm) :
    Calls Try.prog 49 #[.pointer (some ⟨g, 0, none⟩), S s] w fun e w' => e = .returned (.bool (hasT t s)) ∧ Below w.heap.size w w' := by
  obtain ⟨lt, c0, hv⟩ := h
  obtain ⟨a, cp, rfl, hat⟩ := OldRow.cells cells2_len hv
  refine calls1 (args := [.pointer (some ⟨g, 0, none⟩), S s]) Try.func49 rfl rfl rfl rfl ?_
  repeat' (first | refine aw_seq ?_ | ((first | apply ao_val | apply aq_val); exact wants_a; (first | exact ov_nilcheck rfl | exact ov_a); (exact rfl)) | refine zy ?_ | refine zon fun _ => ?_ | refine zoa fun vr lr hr => ?_ | refine zoS (fun _ => ?_) (fun _ => ?_) | refine zqS (fun _ => ?_) (fun _ => ?_) | refine zwS (fun _ => ?_) (fun _ => ?_))
  refine aw_for (t0 := [(0, .pointer (some ⟨g, 0, none⟩)), (1, S s), (5, I (0 : Nat))]) (fun q tm H => ∃ i : Nat, q = t.length - i ∧ i ≤ t.length ∧ (∀ (j : Nat) (e : Nm × Nm), j < i → t[j]? = some e → e.1 ≠ s) ∧ tm = [(0, .pointer (some ⟨g, 0, none⟩)), (1, S s), (5, I i)] ∧ H = []) ⟨0, rfl, by omega, fun j e hj => by omega, rfl, rfl⟩ (by repeat (first | exact sub_nil | refine sub_cons rfl ?_)) ?_
  rintro q tm H ⟨i, rfl, hi, hall, rfl, rfl⟩
  by_cases hlt : i < t.length
  · obtain ⟨⟨n, p⟩, he⟩ := getP hlt
    obtain ⟨g1, o1, rfl, hg, hc⟩ := hat i _ (i : Int) he rfl
    have cN : w.cell? ⟨g1, o1 + (i : Int).toNat * 2 + 0, none⟩ = some (S n) := hc 0 _ rfl
    by_cases hk : n = s
    · rw [show hasT t s = true from has_iff.2 ⟨_, List.mem_of_getElem? he, hk⟩]
      have ek : (n == s) = true := beq_iff_eq.2 hk
      repeat' (first | refine aw_seq ?_ | ((first | apply ao_val | apply aq_val); exact wants_a; (first | exact ov_nilcheck rfl | exact ov_a); (exact rfl)) | refine zy ?_ | refine zon fun _ => ?_ | refine zoa fun vr lr hr => ?_ | refine zoS (fun _ => ?_) (fun _ => ?_) | refine zqS (fun _ => ?_) (fun _ => ?_) | refine zwS (fun _ => ?_) (fun _ => ?_))
      exact fun w' hw => ⟨rfl, hw.below⟩
    · have ek : (n == s) = false := beq_eq_false_iff_ne.2 hk
      repeat' (first | refine aw_seq ?_ | ((first | apply ao_val | apply aq_val); exact wants_a; (first | exact ov_nilcheck rfl | exact ov_a); (exact rfl)) | refine zy ?_ | refine zon fun _ => ?_ | refine zoa fun vr lr hr => ?_ | refine zoS (fun _ => ?_) (fun _ => ?_) | refine zqS (fun _ => ?_) (fun _ => ?_) | refine zwS (fun _ => ?_) (fun _ => ?_))
      exact lq_normal' ⟨i + 1, rfl, by omega, fun j e hj hje => by
        by_cases e1 : j = i
        · subst e1; rw [he] at hje; cases hje; exact hk
        · exact hall j e (by omega) hje, rfl, rfl⟩ (by omega) (by repeat (first | exact sub_nil | refine sub_cons rfl ?_)) hsub_a
  · obtain rfl : i = t.length := by omega
    rw [has_f fun j e hj => hall j e (List.getElem?_eq_some_iff.1 hj).1 hj]
    repeat' (first | refine aw_seq ?_ | ((first | apply ao_val | apply aq_val); exact wants_a; (first | exact ov_nilcheck rfl | exact ov_a); (exact rfl)) | refine zy ?_ | refine zon fun _ => ?_ | refine zoa fun vr lr hr => ?_ | refine zoS (fun _ => ?_) (fun _ => ?_) | refine zqS (fun _ => ?_) (fun _ => ?_) | refine zwS (fun _ => ?_) (fun _ => ?_))
    exact fun w' hw => ⟨rfl, hw.below⟩
set_option maxHeartbeats 8000000 in
theorem rpar_ok {w : World} {g : Nat} {t : Tr} {v : Value} (h : TAt w g t v) (hl : t.length ≤ 1000) (s : Nm) :
    Calls Try.prog 55 #[.pointer (some ⟨g, 0, none⟩), S s] w fun e w' => e = .returned (S (parT t s)) ∧ Below w.heap.size w w' := by
  obtain ⟨lt, c0, hv⟩ := h
  obtain ⟨a, cp, rfl, hat⟩ := OldRow.cells cells2_len hv
  refine calls1 (args := [.pointer (some ⟨g, 0, none⟩), S s]) Try.func55 rfl rfl rfl rfl ?_
  repeat' (first | refine aw_seq ?_ | ((first | apply ao_val | apply aq_val); exact wants_a; (first | exact ov_nilcheck rfl | exact ov_a); (exact rfl)) | refine zy ?_ | refine zon fun _ => ?_ | refine zoa fun vr lr hr => ?_ | refine zoS (fun _ => ?_) (fun _ => ?_) | refine zqS (fun _ => ?_) (fun _ => ?_) | refine zwS (fun _ => ?_) (fun _ => ?_))
  refine aw_for (t0 := [(0, .pointer (some ⟨g, 0, none⟩)), (1, S s), (5, I (0 : Nat))]) (fun q tm H => ∃ i : Nat, q = t.length - i ∧ i ≤ t.length ∧ (∀ (j : Nat) (e : Nm × Nm), j < i → t[j]? = some e → e.1 ≠ s) ∧ tm = [(0, .pointer (some ⟨g, 0, none⟩)), (1, S s), (5, I i)] ∧ H = []) ⟨0, rfl, by omega, fun j e hj => by omega, rfl, rfl⟩ (by repeat (first | exact sub_nil | refine sub_cons rfl ?_)) ?_
  rintro q tm H ⟨i, rfl, hi, hall, rfl, rfl⟩
  by_cases hlt : i < t.length
  · obtain ⟨⟨n, p⟩, he⟩ := getP hlt
    obtain ⟨g1, o1, rfl, hg, hc⟩ := hat i _ (i : Int) he rfl
    have cN : w.cell? ⟨g1, o1 + (i : Int).toNat * 2 + 0, none⟩ = some (S n) := hc 0 _ rfl
    have cP : w.cell? ⟨g1, o1 + (i : Int).toNat * 2 + 1, none⟩ = some (S p) := hc 1 _ rfl
    by_cases hk : n = s
    · rw [show parT t s = p from par_first he hk hall]
      have ek : (n == s) = true := beq_iff_eq.2 hk
      repeat' (first | refine aw_seq ?_ | ((first | apply ao_val | apply aq_val); exact wants_a; (first | exact ov_nilcheck rfl | exact ov_a); (exact rfl)) | refine zy ?_ | refine zon fun _ => ?_ | refine zoa fun vr lr hr => ?_ | refine zoS (fun _ => ?_) (fun _ => ?_) | refine zqS (fun _ => ?_) (fun _ => ?_) | refine zwS (fun _ => ?_) (fun _ => ?_))
      exact fun w' hw => ⟨rfl, hw.below⟩
    · have ek : (n == s) = false := beq_eq_false_iff_ne.2 hk
      repeat' (first | refine aw_seq ?_ | ((first | apply ao_val | apply aq_val); exact wants_a; (first | exact ov_nilcheck rfl | exact ov_a); (exact rfl)) | refine zy ?_ | refine zon fun _ => ?_ | refine zoa fun vr lr hr => ?_ | refine zoS (fun _ => ?_) (fun _ => ?_) | refine zqS (fun _ => ?_) (fun _ => ?_) | refine zwS (fun _ => ?_) (fun _ => ?_))
      exact lq_normal' ⟨i + 1, rfl, by omega, fun j e hj hje => by
        by_cases e1 : j = i
        · subst e1; rw [he] at hje; cases hje; exact hk
        · exact hall j e (by omega) hje, rfl, rfl⟩ (by omega) (by repeat (first | exact sub_nil | refine sub_cons rfl ?_)) hsub_a
  · obtain rfl : i = t.length := by omega
    rw [par_none (has_f fun j e hj => hall j e (List.getElem?_eq_some_iff.1 hj).1 hj)]
    repeat' (first | refine aw_seq ?_ | ((first | apply ao_val | apply aq_val); exact wants_a; (first | exact ov_nilcheck rfl | exact ov_a); (exact rfl)) | refine zy ?_ | refine zon fun _ => ?_ | refine zoa fun vr lr hr => ?_ | refine zoS (fun _ => ?_) (fun _ => ?_) | refine zqS (fun _ => ?_) (fun _ => ?_) | refine zwS (fun _ => ?_) (fun _ => ?_))
    exact fun w' hw => ⟨rfl, hw.below⟩
end Trt
end Go.Proofs.Ytonhfddklkbnbaa
