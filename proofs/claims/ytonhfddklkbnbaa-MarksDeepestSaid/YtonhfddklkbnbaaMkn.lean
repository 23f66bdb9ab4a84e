/- Next, and the deepest first, as facts; conditions: none. -/
import Derived.Test.YtonhfddklkbnbaaMka
import Derived.Test.YtonhfddklkbnbaaTrd
namespace Go.Proofs.Ytonhfddklkbnbaa
namespace Mkt
open Go Trt

def nextN (t : Tr) (l : Mk) : Nat → Nm × Bool
  | 0 => ([], false)
  | d + 1 => match l.find? fun s => decide ((pathT t s).length = d + 1) with | some s => (s, true) | none => nextN t l d
def nextL (t : Tr) (l : Mk) : Nm × Bool := nextN t l 8
/-- Next: of those that are nodes, one with the greatest depth. -/
theorem next_spec (t : Tr) (l : Mk) : ∀ d, (∀ s ∈ l, (pathT t s).length ≤ d) → ((nextN t l d).2 = true ∧ (nextN t l d).1 ∈ l ∧ 0 < (pathT t (nextN t l d).1).length ∧ ∀ s ∈ l, (pathT t s).length ≤ (pathT t (nextN t l d).1).length) ∨ (nextN t l d = ([], false) ∧ ∀ s ∈ l, (pathT t s).length = 0)
  | 0, h => .inr ⟨rfl, fun s hs => Nat.le_zero.1 (h s hs)⟩
  | d + 1, h => by
    unfold nextN
    cases hf : l.find? fun s => decide ((pathT t s).length = d + 1) with
    | some s =>
      have h1 := List.mem_of_find?_eq_some hf
      have h2 := List.find?_some hf
      rw [decide_eq_true_eq] at h2
      exact .inl ⟨rfl, h1, by simp only; omega, fun x hx => by simp only; rw [h2]; exact h x hx⟩
    | none =>
      rw [List.find?_eq_none] at hf
      refine next_spec t l d fun s hs => ?_
      have h1 := h s hs
      have h2 := hf s hs
      rw [decide_eq_true_eq] at h2
      omega

/-- With each name all of its path is marked. -/
def ClosedM (t : Tr) (l : Mk) : Prop := ∀ s ∈ l, hasT t s = true ∧ ∀ x ∈ pathT t s, x ∈ l
section
variable {t : Tr} (h : WfT t)
include h
theorem path_self {s : Nm} (hs : hasT t s = true) : s ∈ pathT t s := by
  obtain ⟨e, he, rfl⟩ := has_iff.1 hs
  rw [h.path he]
  exact List.mem_cons_self
theorem path_sub : ∀ n, ∀ e ∈ t, (pathT t e.1).length ≤ n → ∀ x ∈ pathT t e.1, ∀ y ∈ pathT t x, y ∈ pathT t e.1
  | 0, e, he, hl, x, hx, y, hy => by rw [h.path he, List.length_cons] at hl; omega
  | n + 1, e, he, hl, x, hx, y, hy => by
    have hp := h.path he
    rw [hp] at hx ⊢
    rcases List.mem_cons.1 hx with rfl | hx
    · rw [hp] at hy; exact hy
    · by_cases hh : hasT t e.2 = true
      · obtain ⟨z, hz, hze⟩ := has_iff.1 hh
        rw [hp, List.length_cons] at hl
        rw [← hze] at hx hl ⊢
        exact List.mem_cons_of_mem _ (path_sub n z hz (by omega) x hx y hy)
      · rw [path_none (by simpa using hh)] at hx
        cases hx
theorem closed_mark {l : Mk} (hc : ClosedM t l) (s : Nm) : ClosedM t (marksL l (pathT t s)) := by
  intro x hx
  rw [marks_mem] at hx
  rcases hx with hx | hx
  · by_cases hs : hasT t s = true
    · obtain ⟨e, he, rfl⟩ := has_iff.1 hs
      obtain ⟨h1, -, -⟩ := h.mem_path _ e he (Nat.le_refl _) x hx
      exact ⟨h1, fun y hy => marks_mem.2 (.inl (path_sub h _ e he (Nat.le_refl _) x hx y hy))⟩
    · rw [path_none (by simpa using hs)] at hx
      cases hx
  · obtain ⟨h1, h2⟩ := hc x hx
    exact ⟨h1, fun y hy => marks_mem.2 (.inr (h2 y hy))⟩
/-- None that is below the next one is marked, but it. -/
theorem next_below {l : Mk} {s b : Nm} (hm : ∀ x ∈ l, (pathT t x).length ≤ (pathT t s).length) (hb : hasT t b = true) (hs : s ∈ pathT t b) (hne : b ≠ s) : b ∉ l := fun hbl => by
  obtain ⟨e, he, rfl⟩ := has_iff.1 hb
  obtain ⟨-, -, h3⟩ := h.mem_path _ e he (Nat.le_refl _) s hs
  have := h3 hne.symm
  have := hm e.1 hbl
  omega
theorem closed_clear {l : Mk} {s : Nm} (hc : ClosedM t l) (hm : ∀ x ∈ l, (pathT t x).length ≤ (pathT t s).length) : ClosedM t (l.filter fun x => decide (x ≠ s)) := by
  intro x hx
  obtain ⟨h1, h2⟩ := List.mem_filter.1 hx
  rw [decide_eq_true_eq] at h2
  obtain ⟨h3, h4⟩ := hc x h1
  refine ⟨h3, fun y hy => List.mem_filter.2 ⟨h4 y hy, decide_eq_true ?_⟩⟩
  rintro rfl
  exact next_below h hm h3 hy h2 h1
omit h in
theorem closed_le {l : Mk} (hr : RiseN l) (hc : ClosedM t l) : l.length ≤ t.length := by
  have := nodup_le (m := t.map (·.1)) (rise_nodup hr) fun x hx => by
    obtain ⟨e, he, h1⟩ := has_iff.1 (hc x hx).1
    exact List.mem_map.2 ⟨e, he, h1⟩
  rwa [List.length_map] at this
theorem closed_par {l : Mk} (hc : ClosedM t l) {s : Nm} (hs : s ∈ l) (hr : s ≠ rootN) : parT t s ∈ l := by
  obtain ⟨h1, h2⟩ := hc s hs
  obtain ⟨e, he, rfl⟩ := has_iff.1 h1
  refine h2 _ ?_
  rw [h.path he, h.par he]
  exact List.mem_cons_of_mem _ (path_self h (h.up e he hr))
end
end Mkt
end Go.Proofs.Ytonhfddklkbnbaa
