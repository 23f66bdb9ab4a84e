/- Contract of the landed Within of layer 4; conditions: names of at most 100,000 bytes, numbers of 128 bits. -/
import Derived.Test.YthabchmfhfhcaaaVprog
import Derived.Test.YthabchmfhfhcaaaScmp
namespace Go.Proofs.Ythabchmfhfhcaaa
namespace Vec
open Go Go.RowKit Sx Wid Lab
attribute [local irreducible] Go.Calls

theorem rise_of : ∀ {es : List Ent}, (∀ (j : Nat) (p e : Ent), es[j]? = some p → es[j + 1]? = some e → lt p.1 e.1 = true) → Rise es
  | [], _ => List.Pairwise.nil
  | [a], _ => by unfold Rise; simp
  | a :: b :: r, h => by
    have ih : Rise (b :: r) := rise_of fun j p e hp he => h (j + 1) p e (by simpa using hp) (by simpa using he)
    have hab := h 0 a b rfl rfl
    unfold Rise at ih ⊢
    rw [List.pairwise_cons]
    refine ⟨fun x hx => ?_, ih⟩
    rcases List.mem_cons.1 hx with rfl | hx
    · exact hab
    · exact lt_trans hab ((List.pairwise_cons.1 ih).1 x hx)
theorem right_all {es : List Ent} (h : rightV es = true) : ∀ j, j < es.length → okAt es j = true := by
  unfold rightV at h
  rw [List.all_eq_true] at h
  exact fun j hj => h j (List.mem_range.2 hj)
theorem right_rise {es : List Ent} (h : rightV es = true) : Rise es := rise_of fun j p e hp he => by
  have := right_all h (j + 1) (List.getElem?_eq_some_iff.1 he).1
  unfold okAt at this
  rw [he] at this
  simp only [hp, Bool.and_eq_true] at this
  exact this.2
theorem right_ok {es : List Ent} (h : rightV es = true) {e : Ent} (he : e ∈ es) : rightB e.1 = true ∧ e.2 ≠ 0 := by
  obtain ⟨j, hj⟩ := List.getElem?_of_mem he
  have := right_all h j (List.getElem?_eq_some_iff.1 hj).1
  unfold okAt at this
  rw [hj] at this
  simp only [Bool.and_eq_true, okE] at this
  exact ⟨this.1.1, by simpa using this.1.2⟩
theorem rise_at {es : List Ent} (h : Rise es) {i j : Nat} {a b : Ent} (ha : es[i]? = some a) (hb : es[j]? = some b) (hij : i < j) : lt a.1 b.1 = true := by
  obtain ⟨h1, rfl⟩ := List.getElem?_eq_some_iff.1 ha
  obtain ⟨h2, rfl⟩ := List.getElem?_eq_some_iff.1 hb
  exact List.pairwise_iff_getElem.1 h i j h1 h2 hij
theorem get_app {m : Nm} : ∀ {a b : List Ent}, (∀ e ∈ b, e.1 ≠ m) → getV (a ++ b) m = getV a m
  | [], b, h => get_none h
  | e :: a, b, h => by
    show (if e.1 = m then e.2 else getV (a ++ b) m) = if e.1 = m then e.2 else getV a m
    rw [get_app h]
theorem get_one {m : Nm} : ∀ {a : List Ent} {e : Ent}, (∀ x ∈ a, x.1 ≠ m) → e.1 = m → getV (a ++ [e]) m = e.2
  | [], e, _, h => by show (if e.1 = m then e.2 else 0) = e.2; rw [if_pos h]
  | x :: a, e, h, he => by
    show (if x.1 = m then x.2 else getV (a ++ [e]) m) = e.2
    rw [if_neg (h x List.mem_cons_self)]
    exact get_one (fun y hy => h y (List.mem_cons_of_mem _ hy)) he
theorem le_cases {a b : Nm} (h : lt b a = false) : a = b ∨ lt a b = true := by
  cases g : lt a b
  · exact .inl (lt_total g h)
  · exact .inr rfl

end Vec
end Go.Proofs.Ythabchmfhfhcaaa
