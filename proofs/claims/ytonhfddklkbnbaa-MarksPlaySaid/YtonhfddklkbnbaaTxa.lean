/- Lists of texts, as several layers have them: In, Texts; conditions: at most 100,000 texts. -/
import Derived.Test.YtonhfddklkbnbaaTrd
import Derived.Test.YtonhfddklkbnbaaSxn
namespace Go.Proofs.Ytonhfddklkbnbaa
namespace Trt
open Go Go.RowKit Sx
attribute [local irreducible] Go.Calls

def cells1 (s : Nm) : List Value := [S s]
theorem cells1_len (s : Nm) : (cells1 s).length = 1 := rfl
theorem row1 {v : Value} {l : Hp} {ks : List Nm} {k : Nm} {e : TypeId} (h : RowB e 1 v l (ks.length + 1) (ks.flatMap cells1 ++ [S k])) : RowB e 1 v l (ks ++ [k]).length ((ks ++ [k]).flatMap cells1) := by
  rw [List.length_append, List.flatMap_append]
  exact h
set_option maxHeartbeats 8000000 in
theorem rin_ok (l : List Nm) (hl : l.length ≤ 100000) (s : Nm) (v : Value) (w : World) (hv : OldRow w 1 v l.length (l.flatMap cells1)) :
    Calls Try.prog 22 #[v, S s] w fun e w' => e = .returned (.bool (decide (s ∈ l))) ∧ Below w.heap.size w w' := by
  obtain ⟨a, cp, rfl, hat⟩ := OldRow.cells cells1_len hv
  refine calls1 (args := [.slice a l.length cp, S s]) Try.func22 rfl rfl rfl rfl ?_
  repeat' (first | refine aw_seq ?_ | refine zz ?_ | refine zon fun _ => ?_ | refine zoa fun vr lr hr => ?_ | refine zoS (fun _ => ?_) (fun _ => ?_) | refine zqS (fun _ => ?_) (fun _ => ?_) | refine zwS (fun _ => ?_) (fun _ => ?_))
  refine aw_for (t0 := [(0, .slice a l.length cp), (1, S s), (5, I (0 : Nat))]) (fun q tm H => ∃ i : Nat, q = l.length - i ∧ i ≤ l.length ∧ (∀ (j : Nat) (e : Nm), j < i → l[j]? = some e → e ≠ s) ∧ tm = [(0, .slice a l.length cp), (1, S s), (5, I i)] ∧ H = []) ⟨0, rfl, by omega, fun j e hj => by omega, rfl, rfl⟩ (by repeat (first | exact sub_nil | refine sub_cons rfl ?_)) ?_
  rintro q tm H ⟨i, rfl, hi, hall, rfl, rfl⟩
  by_cases hlt : i < l.length
  · obtain ⟨n, he⟩ := getP hlt
    obtain ⟨g1, o1, rfl, hg, hc⟩ := hat i _ (i : Int) he rfl
    have cN : w.cell? ⟨g1, o1 + (i : Int).toNat * 1, none⟩ = some (S n) := hc 0 _ rfl
    by_cases hk : n = s
    · rw [decide_eq_true (hk ▸ List.mem_of_getElem? he)]
      have ek : (n == s) = true := beq_iff_eq.2 hk
      repeat' (first | refine aw_seq ?_ | refine zz ?_ | refine zon fun _ => ?_ | refine zoa fun vr lr hr => ?_ | refine zoS (fun _ => ?_) (fun _ => ?_) | refine zqS (fun _ => ?_) (fun _ => ?_) | refine zwS (fun _ => ?_) (fun _ => ?_))
      exact fun w' hw => ⟨rfl, hw.below⟩
    · have ek : (n == s) = false := beq_eq_false_iff_ne.2 hk
      repeat' (first | refine aw_seq ?_ | refine zz ?_ | refine zon fun _ => ?_ | refine zoa fun vr lr hr => ?_ | refine zoS (fun _ => ?_) (fun _ => ?_) | refine zqS (fun _ => ?_) (fun _ => ?_) | refine zwS (fun _ => ?_) (fun _ => ?_))
      exact lq_normal' ⟨i + 1, rfl, by omega, fun j e hj hje => by
        by_cases e1 : j = i
        · subst e1; rw [he] at hje; cases hje; exact hk
        · exact hall j e (by omega) hje, rfl, rfl⟩ (by omega) (by repeat (first | exact sub_nil | refine sub_cons rfl ?_)) hsub_a
  · obtain rfl : i = l.length := by omega
    rw [decide_eq_false fun h => by
      obtain ⟨j, hj⟩ := List.getElem?_of_mem h
      exact hall j s (List.getElem?_eq_some_iff.1 hj).1 hj rfl]
    repeat' (first | refine aw_seq ?_ | refine zz ?_ | refine zon fun _ => ?_ | refine zoa fun vr lr hr => ?_ | refine zoS (fun _ => ?_) (fun _ => ?_) | refine zqS (fun _ => ?_) (fun _ => ?_) | refine zwS (fun _ => ?_) (fun _ => ?_))
    exact fun w' hw => ⟨rfl, hw.below⟩
set_option maxHeartbeats 8000000 in
theorem rtexts_ok (es fs : List Nm) (hln : es.length ≤ 100000) (v u : Value) (w : World) (hv : OldRow w 1 v es.length (es.flatMap cells1)) (hu : OldRow w 1 u fs.length (fs.flatMap cells1)) : Calls Try.prog 18 #[v, u] w fun e w' => e = .returned (.bool (es == fs)) ∧ Below w.heap.size w w' := by
  obtain ⟨a, c, rfl, hat⟩ := OldRow.cells cells1_len hv
  obtain ⟨a2, c2, rfl, hat2⟩ := OldRow.cells cells1_len hu
  refine calls1 (args := [.slice a es.length c, .slice a2 fs.length c2]) Try.func18 rfl rfl rfl rfl ?_
  by_cases hlen : es.length = fs.length
  · rw [← hlen]
    have hle : ((es.length : Int) != (es.length : Int)) = false := bne_self_eq_false _
    repeat' (first | refine aw_seq ?_ | refine zz ?_ | refine zon fun _ => ?_ | refine zoa fun vr lr hr => ?_ | refine zoS (fun _ => ?_) (fun _ => ?_) | refine zqS (fun _ => ?_) (fun _ => ?_) | refine zwS (fun _ => ?_) (fun _ => ?_))
    refine aw_for (t0 := [(0, .slice a es.length c), (1, .slice a2 es.length c2), (5, I (0 : Nat))]) (fun q t H => ∃ (i : Nat), q = es.length - i ∧ i ≤ es.length ∧ es.take i = fs.take i ∧ t = [(0, .slice a es.length c), (1, .slice a2 es.length c2), (5, I i)] ∧ H = []) ⟨0, rfl, by omega, rfl, rfl, rfl⟩ (by repeat (first | exact sub_nil | refine sub_cons rfl ?_)) ?_
    rintro q t H ⟨i, rfl, hi, htake, rfl, rfl⟩
    by_cases hlt : i < es.length
    · obtain ⟨e, he⟩ := getP hlt
      obtain ⟨f, hf⟩ := getP (show i < fs.length by omega)
      obtain ⟨g, o, rfl, hg, hc⟩ := hat i e (i : Int) he rfl
      obtain ⟨g2, o2, rfl, hg2, hc2⟩ := hat2 i f (i : Int) hf rfl
      have c0 : w.cell? ⟨g, o + (i : Int).toNat * 1, none⟩ = some (S e) := hc 0 _ rfl
      have d0 : w.cell? ⟨g2, o2 + (i : Int).toNat * 1, none⟩ = some (S f) := hc2 0 _ rfl
      by_cases hef : e = f
      · subst hef
        have hb : (e != e) = false := bne_self_eq_false _
        repeat' (first | refine aw_seq ?_ | refine zz ?_ | refine zon fun _ => ?_ | refine zoa fun vr lr hr => ?_ | refine zoS (fun _ => ?_) (fun _ => ?_) | refine zqS (fun _ => ?_) (fun _ => ?_) | refine zwS (fun _ => ?_) (fun _ => ?_))
        exact lq_normal ⟨i + 1, rfl, by omega, by rw [List.take_add_one, List.take_add_one, htake, he, hf], rfl, rfl⟩ (by omega) (by repeat (first | exact sub_nil | refine sub_cons rfl ?_))
      · have hne : es ≠ fs := fun h => by rw [h, hf] at he; cases he; exact hef rfl
        rw [show (es == fs) = false from beq_eq_false_iff_ne.2 hne]
        have hb : (e != f) = true := bne_iff_ne.2 hef
        repeat' (first | refine aw_seq ?_ | refine zz ?_ | refine zon fun _ => ?_ | refine zoa fun vr lr hr => ?_ | refine zoS (fun _ => ?_) (fun _ => ?_) | refine zqS (fun _ => ?_) (fun _ => ?_) | refine zwS (fun _ => ?_) (fun _ => ?_))
        exact fun w' hw => ⟨rfl, hw.below⟩
    · obtain rfl : i = es.length := by omega
      have : es = fs := by rw [List.take_length, hlen, List.take_length] at htake; exact htake
      rw [show (es == fs) = true from beq_iff_eq.2 this]
      repeat' (first | refine aw_seq ?_ | refine zz ?_ | refine zon fun _ => ?_ | refine zoa fun vr lr hr => ?_ | refine zoS (fun _ => ?_) (fun _ => ?_) | refine zqS (fun _ => ?_) (fun _ => ?_) | refine zwS (fun _ => ?_) (fun _ => ?_))
      exact fun w' hw => ⟨rfl, hw.below⟩
  · have hle : ((es.length : Int) != (fs.length : Int)) = true := bne_iff_ne.2 (by omega)
    rw [show (es == fs) = false from beq_eq_false_iff_ne.2 fun h => hlen (by rw [h])]
    repeat' (first | refine aw_seq ?_ | refine zz ?_ | refine zon fun _ => ?_ | refine zoa fun vr lr hr => ?_ | refine zoS (fun _ => ?_) (fun _ => ?_) | refine zqS (fun _ => ?_) (fun _ => ?_) | refine zwS (fun _ => ?_) (fun _ => ?_))
    exact fun w' hw => ⟨rfl, hw.below⟩
theorem same_ok (es : List Nm) (hln : es.length ≤ 100000) (v u : Value) (w : World) (hv : OldRow w 1 v es.length (es.flatMap cells1)) (hu : OldRow w 1 u es.length (es.flatMap cells1)) : Calls Try.prog 18 #[v, u] w fun e w' => e = .returned (.bool true) ∧ Below w.heap.size w w' := by
  have := rtexts_ok es es hln v u w hv hu
  rwa [show (es == es) = true from beq_self_eq_true es] at this
/-- A list of texts that a law writes out. -/
theorem row_lit {b n : Nat} {fs : List Nm} {e : TypeId} {vs : List Value} (hn : n = fs.length) (hv : vs = fs.flatMap cells1) : RowB e 1 (.slice (some ⟨b, 0, none⟩) n n) [(b, .cells vs.toArray e (0, 0))] fs.length (fs.flatMap cells1) := by
  subst hn
  subst hv
  have hl : (fs.flatMap cells1).length = fs.length * 1 := by
    induction fs with
    | nil => rfl
    | cons a l ih => rw [List.flatMap_cons, List.length_append, ih, List.length_cons]; show 1 + _ = _; omega
  exact ⟨hl, .inr ⟨b, fs.length, _, rfl, rfl, Nat.le_refl _, by rw [List.size_toArray, hl], by rw [← hl, List.take_length]⟩⟩
end Trt
end Go.Proofs.Ytonhfddklkbnbaa
