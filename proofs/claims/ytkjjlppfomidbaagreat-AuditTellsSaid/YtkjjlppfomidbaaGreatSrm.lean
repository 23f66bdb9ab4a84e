/- A stable sort: the steps of a merge, and of the blocks, as facts; conditions: none. -/
import Derived.Test.YtkjjlppfomidbaaGreatSxw
import Derived.Test.YtkjjlppfomidbaaGreatTy
/- Srs: A stable sort: the steps of a merge, and of the blocks, as facts; conditions: none. -/
namespace Go.Proofs.YtkjjlppfomidbaaGreat
namespace Srt
variable {α : Type} {a b c m i j k n s : Nat} {d e f : Nat → α} {lt : α → α → Prop} {x : α → Nat}
theorem Ord.ltl (tr : ∀ u v w, lt u v → lt v w → lt u w) (h : Ord lt d a b) (h1 : a ≤ i) (h2 : i ≤ j) (h3 : j < b) {y : α} (hy : lt (d j) y) : lt (d i) y := by
  rcases Nat.eq_or_lt_of_le h2 with rfl | h4
  · exact hy
  · exact tr _ _ _ (h i j h1 h4 h3) hy
theorem Ord.ltr (tr : ∀ u v w, lt u v → lt v w → lt u w) (h : Ord lt d a b) (h1 : a ≤ i) (h2 : i ≤ j) (h3 : j < b) {y : α} (hy : lt y (d i)) : lt y (d j) := by
  rcases Nat.eq_or_lt_of_le h2 with rfl | h4
  · exact hy
  · exact tr _ _ _ hy (h i j h1 h4 h3)
theorem rot_ord_lo {t : Nat} (h : Ord lt d m t) (h3 : s ≤ m) (h4 : m ≤ t) : Ord lt (rot d s m t) s (s + (t - m)) := fun i j g1 g2 g3 => by
  rw [rot_lo (by omega) (by omega) h3 h4, rot_lo (by omega) (by omega) h3 h4]
  exact h _ _ (by omega) (by omega) (by omega)
theorem rot_ord_hi {t : Nat} (h : Ord lt d s m) (h4 : m ≤ t) : Ord lt (rot d s m t) (s + (t - m)) t := fun i j g1 g2 g3 => by
  rw [rot_hi (by omega) (by omega), rot_hi (by omega) (by omega)]
  exact h _ _ (by omega) (by omega) (by omega)
theorem ord_out {t : Nat} (h : Ord lt d i j) (hij : j ≤ s ∨ t ≤ i) : Ord lt (rot d s m t) i j := h.congr fun k h1 h2 => rot_out (by omega)
theorem sym_step (tr : ∀ u v w, lt u v → lt v w → lt u w) {t mid : Nat} (h1 : Ord lt d a m) (h2 : Ord lt d m b) (hx : Came x d a m b) (hs : a ≤ s) (hsm : s ≤ m) (hmt : m ≤ t) (htb : t ≤ b) (hmid : s + (t - m) = mid)
    (g1 : s = a ∨ t = b ∨ lt (d (s - 1)) (d t)) (g2 : s = m ∨ t = m ∨ lt (d (t - 1)) (d s)) :
    (Ord lt (rot d s m t) a s ∧ Ord lt (rot d s m t) s mid ∧ Came x (rot d s m t) a s mid) ∧ (Ord lt (rot d s m t) mid t ∧ Ord lt (rot d s m t) t b ∧ Came x (rot d s m t) mid t b) ∧
    ∀ i j, a ≤ i → i < mid → mid ≤ j → j < b → lt (rot d s m t i) (rot d s m t j) := by
  subst hmid
  refine ⟨⟨ord_out (h1.sub (Nat.le_refl _) hsm) (.inl (Nat.le_refl _)), rot_ord_lo (h2.sub (Nat.le_refl _) htb) hsm hmt, fun i j c1 c2 c3 c4 => ?_⟩, ⟨rot_ord_hi (h1.sub hs (Nat.le_refl _)) hmt, ord_out (h2.sub hmt (Nat.le_refl _)) (.inr (Nat.le_refl _)), fun i j c1 c2 c3 c4 => ?_⟩, fun i j c1 c2 c3 c4 => ?_⟩
  · rw [rot_out (by omega), rot_lo (by omega) (by omega) hsm hmt]
    exact hx _ _ (by omega) (by omega) (by omega) (by omega)
  · rw [rot_hi (by omega) (by omega), rot_out (by omega)]
    exact hx _ _ (by omega) (by omega) (by omega) (by omega)
  · by_cases hi : i < s
    · rw [rot_out (k := i) (by omega)]
      by_cases hj : j < t
      · rw [rot_hi (by omega) (by omega)]
        exact h1 _ _ (by omega) (by omega) (by omega)
      · rw [rot_out (by omega)]
        rcases g1 with g | g | g
        · omega
        · omega
        · exact h1.ltl tr (by omega) (show i ≤ s - 1 by omega) (by omega) (h2.ltr tr (by omega) (by omega) (by omega) g)
    · rw [rot_lo (k := i) (by omega) (by omega) hsm hmt]
      by_cases hj : j < t
      · rw [rot_hi (by omega) (by omega)]
        rcases g2 with g | g | g
        · omega
        · omega
        · exact h2.ltl tr (by omega) (show i + (m - s) ≤ t - 1 by omega) (by omega) (h1.ltr tr (by omega) (by omega) (by omega) g)
      · rw [rot_out (by omega)]
        exact h2 _ _ (by omega) (by omega) (by omega)
theorem rot_none_l {t : Nat} : rot d m m t = d := by
  funext k
  by_cases h : k < m ∨ t ≤ k
  · exact rot_out h
  · rw [rot_lo (by omega) (by omega) (by omega) (by omega)]; congr 1; omega
theorem rot_none_r : rot d s m m = d := by
  funext k
  by_cases h : k < s ∨ m ≤ k
  · exact rot_out h
  · rw [rot_hi (by omega) (by omega)]; congr 1; omega
theorem dvd_step (h1 : s ∣ c) (h2 : s ∣ a) (h : c < a) : c + s ≤ a := by
  have h3 := Nat.le_of_dvd (by omega) (Nat.dvd_sub h2 h1)
  omega
theorem Came.keep (h : Came x d 0 c n) (g : Mv a b d e) (hc : c ≤ a ∨ b ≤ c) (hb : b ≤ n) : Came x e 0 c n := by
  rcases hc with hc | hc
  · exact h.hi (g.mono hc hb)
  · exact h.lo (g.mono (Nat.zero_le _) hc)
theorem Ord.keep (h : Ord lt d i j) (g : Mv a b d e) (hc : j ≤ a ∨ b ≤ i) : Ord lt e i j := h.congr fun k h1 h2 => g.out (by omega)
def Lay (lt : α → α → Prop) (x : α → Nat) (d : Nat → α) (n s : Nat) : Prop := ∀ c, s ∣ c → Came x d 0 c n ∧ Ord lt d c (min (c + s) n)
def LayA (lt : α → α → Prop) (x : α → Nat) (d : Nat → α) (n s a : Nat) : Prop :=
  s ∣ a ∧ a ≤ n ∧ (∀ c, s ∣ c → Came x d 0 c n) ∧ (∀ c, s ∣ c → c < a → Ord lt d c (c + s)) ∧ ∀ i j, a ≤ i → i < j → j < n → x (d i) < x (d j)
theorem LayA.start (h : ∀ i j, i < j → j < n → x (d i) < x (d j)) : LayA lt x d n s 0 := ⟨Nat.dvd_zero _, Nat.zero_le _, fun c _ i j h1 h2 h3 h4 => h i j (by omega) h4, fun c _ h => by omega, fun i j _ h1 h2 => h i j h1 h2⟩
theorem LayA.step (h : LayA lt x d n s a) (hb : a + s ≤ n) (g : Mv a (a + s) d e) (ho : Ord lt e a (a + s)) : LayA lt x e n s (a + s) := by
  obtain ⟨h1, h2, h3, h4, h5⟩ := h
  refine ⟨Nat.dvd_add h1 (Nat.dvd_refl _), hb, fun c hc => ?_, fun c hc hlt => ?_, fun i j c1 c2 c3 => ?_⟩
  · refine (h3 c hc).keep g ?_ hb
    by_cases hca : c ≤ a
    · exact .inl hca
    · exact .inr (dvd_step h1 hc (by omega))
  · by_cases hca : c < a
    · exact (h4 c hc hca).keep g (.inl (dvd_step hc h1 hca))
    · have : c + s ≤ a + s := dvd_step hc (Nat.dvd_add h1 (Nat.dvd_refl _)) hlt
      obtain rfl : c = a := by omega
      exact ho
  · rw [g.out (by omega), g.out (by omega)]
    exact h5 i j (by omega) c2 c3
theorem LayA.done (h : LayA lt x d n s a) (hb : n < a + s) (g : Mv a n d e) (ho : Ord lt e a n) : Lay lt x e n s := by
  obtain ⟨h1, h2, h3, h4, h5⟩ := h
  intro c hc
  by_cases hca : c < a
  · have := dvd_step hc h1 hca
    exact ⟨(h3 c hc).keep g (.inl (by omega)) (Nat.le_refl _), by rw [Nat.min_eq_left (by omega)]; exact (h4 c hc hca).keep g (.inl this)⟩
  · by_cases hce : c = a
    · subst hce
      exact ⟨(h3 c hc).keep g (.inl (Nat.le_refl _)) (Nat.le_refl _), by rw [Nat.min_eq_right (by omega)]; exact ho⟩
    · have := dvd_step h1 hc (by omega)
      exact ⟨fun i j c1 c2 c3 c4 => by omega, .nil (by omega)⟩
def LayB (lt : α → α → Prop) (x : α → Nat) (d : Nat → α) (n s a : Nat) : Prop :=
  2 * s ∣ a ∧ a ≤ n ∧ (∀ c, s ∣ c → (2 * s ∣ c ∨ a ≤ c) → Came x d 0 c n) ∧ (∀ c, 2 * s ∣ c → c < a → Ord lt d c (c + 2 * s)) ∧ ∀ c, s ∣ c → a ≤ c → Ord lt d c (min (c + s) n)
theorem LayB.start (h : Lay lt x d n s) : LayB lt x d n s 0 := ⟨Nat.dvd_zero _, Nat.zero_le _, fun c hc _ => (h c hc).1, fun c _ h => by omega, fun c hc _ => (h c hc).2⟩
theorem dvd_two (h : 2 * s ∣ a) : s ∣ a := Nat.dvd_trans (Nat.dvd_mul_left _ _) h
theorem LayB.ready (h : LayB lt x d n s a) (hb : b ≤ n) (h2 : b ≤ a + 2 * s) (hm : a + s < b) : Ord lt d a (a + s) ∧ Ord lt d (a + s) b ∧ Came x d a (a + s) b := by
  obtain ⟨g1, g2, g3, g4, g5⟩ := h
  have hd := dvd_two g1
  have hd2 := Nat.dvd_add hd (Nat.dvd_refl s)
  have o1 := g5 a hd (Nat.le_refl _)
  have o2 := g5 (a + s) hd2 (by omega)
  rw [Nat.min_eq_left (by omega)] at o1
  refine ⟨o1, ?_, (g3 _ hd2 (.inr (by omega))).sub (Nat.zero_le _) hb⟩
  exact o2.sub (Nat.le_refl _) (by omega)
theorem LayB.step (h : LayB lt x d n s a) (hb : a + 2 * s ≤ n) (g : Mv a (a + 2 * s) d e) (ho : Ord lt e a (a + 2 * s)) : LayB lt x e n s (a + 2 * s) := by
  obtain ⟨h1, h2, h3, h4, h5⟩ := h
  refine ⟨Nat.dvd_add h1 (Nat.dvd_refl _), hb, fun c hc hor => ?_, fun c hc hlt => ?_, fun c hc hle => ?_⟩
  · by_cases hca : c ≤ a
    · exact (h3 c hc (hor.imp id fun h => by omega)).keep g (.inl hca) hb
    · refine (h3 c hc (.inr (by omega))).keep g (.inr ?_) hb
      rcases hor with h | h
      · exact dvd_step h1 h (by omega)
      · exact h
  · by_cases hca : c < a
    · exact (h4 c hc hca).keep g (.inl (dvd_step hc h1 hca))
    · have : c + 2 * s ≤ a + 2 * s := dvd_step hc (Nat.dvd_add h1 (Nat.dvd_refl _)) hlt
      obtain rfl : c = a := by omega
      exact ho
  · exact (h5 c hc (by omega)).keep g (.inr hle)
theorem LayB.done (h : LayB lt x d n s a) (hb : n < a + 2 * s) (g : Mv a n d e) (ho : Ord lt e a n) : Lay lt x e n (2 * s) := by
  obtain ⟨h1, h2, h3, h4, h5⟩ := h
  intro c hc
  have hcm := h3 c (dvd_two hc) (.inl hc)
  by_cases hca : c < a
  · have := dvd_step hc h1 hca
    exact ⟨hcm.keep g (.inl (by omega)) (Nat.le_refl _), by rw [Nat.min_eq_left (by omega)]; exact (h4 c hc hca).keep g (.inl this)⟩
  · by_cases hce : c = a
    · subst hce
      exact ⟨hcm.keep g (.inl (Nat.le_refl _)) (Nat.le_refl _), by rw [Nat.min_eq_right (by omega)]; exact ho⟩
    · have := dvd_step h1 hc (by omega)
      exact ⟨fun i j c1 c2 c3 c4 => by omega, .nil (by omega)⟩
theorem LayB.last (h : LayB lt x d n s a) (hb : n ≤ a + s) : Ord lt d a n := by
  have := h.2.2.2.2 a (dvd_two h.1) (Nat.le_refl _)
  rwa [Nat.min_eq_right hb] at this
theorem Lay.all (h : Lay lt x d n s) (hs : n ≤ s) : Ord lt d 0 n := by
  have := (h 0 (Nat.dvd_zero _)).2
  rwa [Nat.zero_add, Nat.min_eq_right hs] at this
end Srt
end Go.Proofs.YtkjjlppfomidbaaGreat
/- Srw: Contracts of the library's stable sort over objects: swaps of ranges, rotations; conditions: rows of at most 1,000,000 elements. -/
namespace Go.Proofs.YtkjjlppfomidbaaGreat
namespace Srw
open Go Go.RowKit Sx Srt
end Srw
end Go.Proofs.YtkjjlppfomidbaaGreat
/- Srm: Contracts of the library's stable sort over objects: the sort by insertion, the merge; conditions: rows of at most 1,000,000 elements. -/
namespace Go.Proofs.YtkjjlppfomidbaaGreat
namespace Srw
open Go Go.RowKit Sx Srt
end Srw
end Go.Proofs.YtkjjlppfomidbaaGreat
