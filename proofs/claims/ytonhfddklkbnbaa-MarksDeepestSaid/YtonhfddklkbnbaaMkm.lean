/- The document's answer for layer 12: Next; conditions: at most 10,000 names. -/
import Derived.Test.YtonhfddklkbnbaaMkb
import Derived.Test.YtonhfddklkbnbaaMkn
import Derived.Test.YtonhfddklkbnbaaTrs
namespace Go.Proofs.Ytonhfddklkbnbaa
namespace Mkt
open Go Go.RowKit Sx Trt
attribute [local irreducible] Go.Calls

set_option maxHeartbeats 16000000 in
theorem rnext_ok {w : World} {l : Mk} {v tv : Value} {g : Nat} {t : Tr} (hv : OldRow w 1 v l.length (l.flatMap cells1)) (hl : l.length ≤ 10000) (ht : TAt w g t tv) (htl : t.length ≤ 1000) (h8 : ∀ s, (pathT t s).length ≤ 8) :
    Calls Try.prog 20 #[v, .pointer (some ⟨g, 0, none⟩)] w fun e w' => e = .returned (.tuple #[S (nextL t l).1, .bool (nextL t l).2]) ∧ Below w.heap.size w w' := by
  obtain ⟨a, cp, rfl, hat⟩ := OldRow.cells cells1_len hv
  have hpa := fun w' (hb : Below w.heap.size w w') s => rpath_ok (ht.below hb) htl 9 (by omega) s (show (pathT t s).length < 9 by have := h8 s; omega)
  refine calls2 (args := [.slice a l.length cp, .pointer (some ⟨g, 0, none⟩)]) Try.func20 rfl rfl rfl rfl ?_
  repeat' (first | refine aw_seq ?_ | refine zz ?_ | refine zon fun _ => ?_ | refine zoa fun vr lr hr => ?_ | refine zoS (fun _ => ?_) (fun _ => ?_) | refine zqS (fun _ => ?_) (fun _ => ?_) | refine zwS (fun _ => ?_) (fun _ => ?_))
  refine aw_for (t0 := [(0, .slice a l.length cp), (1, .pointer (some ⟨g, 0, none⟩)), (6, I (8 : Nat))]) (fun d tm H => d ≤ 8 ∧ nextN t l d = nextL t l ∧ tm = [(0, .slice a l.length cp), (1, .pointer (some ⟨g, 0, none⟩)), (6, I d)] ∧ H = [])
    (m := 8) ⟨by omega, rfl, rfl, rfl⟩ (by repeat (first | exact sub_nil | refine sub_cons rfl ?_)) ?_
  rintro d tm H ⟨hd, hnx, rfl, rfl⟩
  cases d with
  | zero =>
    rw [← hnx]
    unfold nextN
    repeat' (first | refine aw_seq ?_ | refine zz ?_ | refine zon fun _ => ?_ | refine zoa fun vr lr hr => ?_ | refine zoS (fun _ => ?_) (fun _ => ?_) | refine zqS (fun _ => ?_) (fun _ => ?_) | refine zwS (fun _ => ?_) (fun _ => ?_))
    exact fun w' hw => ⟨rfl, hw.below⟩
  | succ d =>
    unfold nextN at hnx
    repeat' (first | refine aw_seq ?_ | refine zz ?_ | refine zon fun _ => ?_ | refine zoa fun vr lr hr => ?_ | refine zoS (fun _ => ?_) (fun _ => ?_) | refine zqS (fun _ => ?_) (fun _ => ?_) | refine zwS (fun _ => ?_) (fun _ => ?_))
    refine aw_for (t0 := [(0, .slice a l.length cp), (1, .pointer (some ⟨g, 0, none⟩)), (6, I ((d + 1 : Nat) : Int)), (7, I (0 : Nat))]) (fun q tm H => ∃ i : Nat, q = l.length - i ∧ i ≤ l.length ∧ (∀ (j : Nat) (e : Nm), j < i → l[j]? = some e → (pathT t e).length ≠ d + 1) ∧ tm = [(0, .slice a l.length cp), (1, .pointer (some ⟨g, 0, none⟩)), (6, I ((d + 1 : Nat) : Int)), (7, I i)] ∧ H = [])
      ⟨0, rfl, by omega, fun j e hj => by omega, rfl, rfl⟩ (by repeat (first | exact sub_nil | refine sub_cons rfl ?_)) ?_
    rintro q tm H ⟨i, rfl, hi, hall, rfl, rfl⟩
    by_cases hlt : i < l.length
    · obtain ⟨x, he⟩ := getP hlt
      obtain ⟨g1, o1, rfl, hg, hc⟩ := hat i _ (i : Int) he rfl
      have cX : w.cell? ⟨g1, o1 + (i : Int).toNat * 1, none⟩ = some (S x) := hc 0 _ rfl
      have hpx := fun w' hb => hpa w' hb x
      rw [show pathN t 9 x = pathT t x from rfl] at hpx
      by_cases hk : (pathT t x).length = d + 1
      · have hf : l.find? (fun s => decide ((pathT t s).length = d + 1)) = some x := by
          rw [List.find?_eq_some_iff_getElem]
          refine ⟨decide_eq_true hk, i, hlt, (List.getElem?_eq_some_iff.1 he).2, fun j hj => ?_⟩
          have := hall j _ hj (List.getElem?_eq_getElem (by omega))
          simpa using this
        rw [hf] at hnx
        simp only at hnx
        rw [← hnx]
        have ek : (((pathT t x).length : Int) == ((d + 1 : Nat) : Int)) = true := beq_iff_eq.2 (by rw [hk])
        generalize pathT t x = P at hpx ek
        repeat' (first | refine aw_seq ?_ | ((first | apply ao_val | apply aq_val); exact wants_a; (first | exact ov_lenr rfl (by assumption) | exact ov_a); (exact rfl)) | refine zy ?_ | refine zon fun _ => ?_ | refine zoa fun vr lr hr => ?_ | (apply ao_callr; exact wants_a; (exact oc_func rfl); (exact rfl); (first | exact fun w hw => hpx w hw.below); intro vr lr hr) | refine zoS (fun _ => ?_) (fun _ => ?_) | refine zqS (fun _ => ?_) (fun _ => ?_) | refine zwS (fun _ => ?_) (fun _ => ?_))
        exact fun w' hw => ⟨rfl, hw.below⟩
      · have ek : (((pathT t x).length : Int) == ((d + 1 : Nat) : Int)) = false := beq_eq_false_iff_ne.2 (by omega)
        have hnk : (pathT t x).length ≠ d + 1 := hk
        generalize hP : pathT t x = P at hpx ek
        repeat' (first | refine aw_seq ?_ | ((first | apply ao_val | apply aq_val); exact wants_a; (first | exact ov_lenr rfl (by assumption) | exact ov_a); (exact rfl)) | refine zy ?_ | refine zon fun _ => ?_ | refine zoa fun vr lr hr => ?_ | (apply ao_callr; exact wants_a; (exact oc_func rfl); (exact rfl); (first | exact fun w hw => hpx w hw.below); intro vr lr hr) | refine zoS (fun _ => ?_) (fun _ => ?_) | refine zqS (fun _ => ?_) (fun _ => ?_) | refine zwS (fun _ => ?_) (fun _ => ?_))
        exact lq_normal' ⟨i + 1, rfl, by omega, fun j e hj hje => by
          by_cases e1 : j = i
          · subst e1; rw [he] at hje; cases hje; exact hnk
          · exact hall j e (by omega) hje, rfl, rfl⟩ (by omega) (by repeat (first | exact sub_nil | refine sub_cons rfl ?_)) hsub_a
    · obtain rfl : i = l.length := by omega
      have hf : l.find? (fun s => decide ((pathT t s).length = d + 1)) = none := by
        rw [List.find?_eq_none]
        intro s hs
        obtain ⟨j, hj⟩ := List.getElem?_of_mem hs
        have := hall j s (List.getElem?_eq_some_iff.1 hj).1 hj
        simpa using this
      rw [hf] at hnx
      simp only at hnx
      repeat' (first | refine aw_seq ?_ | refine zz ?_ | refine zon fun _ => ?_ | refine zoa fun vr lr hr => ?_ | refine zoS (fun _ => ?_) (fun _ => ?_) | refine zqS (fun _ => ?_) (fun _ => ?_) | refine zwS (fun _ => ?_) (fun _ => ?_))
      exact lq_normal' (t' := [(0, .slice a l.length cp), (1, .pointer (some ⟨g, 0, none⟩)), (6, I ((d + 1 : Nat) - 1 : Int))]) (m' := d) ⟨by omega, hnx, by rw [show ((d + 1 : Nat) : Int) - 1 = d by omega], rfl⟩ (Nat.lt_succ_self d) (by repeat (first | exact sub_nil | refine sub_cons rfl ?_)) hsub_a
end Mkt
end Go.Proofs.Ytonhfddklkbnbaa
