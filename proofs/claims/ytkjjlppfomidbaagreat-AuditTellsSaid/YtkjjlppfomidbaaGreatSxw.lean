/- A stable sort, as facts of functions from places: moves, swaps, rotations, merges; conditions: none. -/
import Derived.Test.YtkjjlppfomidbaaGreatSxk
/- Srt: A stable sort, as facts of functions from places: moves, swaps, rotations, merges; conditions: none. -/
namespace Go.Proofs.YtkjjlppfomidbaaGreat
namespace Srt
variable {α : Type} {a b c m i j k n s : Nat} {d e f : Nat → α}
def Mv (a b : Nat) (d e : Nat → α) : Prop := ∃ p q : Nat → Nat, (∀ k, p (q k) = k) ∧ (∀ k, q (p k) = k) ∧ (∀ k, k < a ∨ b ≤ k → p k = k) ∧ ∀ k, e k = d (p k)
theorem Mv.refl : Mv a b d d := ⟨fun k => k, fun k => k, fun _ => rfl, fun _ => rfl, fun _ _ => rfl, fun _ => rfl⟩
theorem Mv.trans (h : Mv a b d e) (g : Mv a b e f) : Mv a b d f := by
  obtain ⟨p, q, h1, h2, h3, h4⟩ := h
  obtain ⟨r, s, g1, g2, g3, g4⟩ := g
  exact ⟨fun k => p (r k), fun k => s (q k), fun k => by show p (r (s (q k))) = k; rw [g1, h1], fun k => by show s (q (p (r k))) = k; rw [h2, g2], fun k hk => by show p (r k) = k; rw [g3 k hk, h3 k hk], fun k => by rw [g4, h4]⟩
theorem Mv.symm (h : Mv a b d e) : Mv a b e d := by
  obtain ⟨p, q, h1, h2, h3, h4⟩ := h
  exact ⟨q, p, h2, h1, fun k hk => by conv => { lhs; rw [← h3 k hk] }; exact h2 k, fun k => by rw [h4, h1]⟩
theorem Mv.mono {a' b' : Nat} (h : Mv a b d e) (h1 : a' ≤ a) (h2 : b ≤ b') : Mv a' b' d e := by
  obtain ⟨p, q, g1, g2, g3, g4⟩ := h
  exact ⟨p, q, g1, g2, fun k hk => g3 k (by omega), g4⟩
theorem Mv.out (h : Mv a b d e) (hk : k < a ∨ b ≤ k) : e k = d k := by
  obtain ⟨p, q, g1, g2, g3, g4⟩ := h
  rw [g4, g3 k hk]
theorem Mv.to (h : Mv a b d e) (h1 : a ≤ k) (h2 : k < b) : ∃ j, a ≤ j ∧ j < b ∧ e k = d j := by
  obtain ⟨p, q, g1, g2, g3, g4⟩ := h
  by_cases hp : a ≤ p k ∧ p k < b
  · exact ⟨p k, hp.1, hp.2, g4 k⟩
  · have h3 := g3 (p k) (by omega)
    have h4 := congrArg q h3
    rw [g2, g2] at h4
    rw [h4] at hp
    exact absurd ⟨h1, h2⟩ hp
def swp (d : Nat → α) (i j : Nat) : Nat → α := fun k => if k = i then d j else if k = j then d i else d k
def rot (d : Nat → α) (a m b : Nat) : Nat → α := fun k => if k < a ∨ b ≤ k then d k else if k < a + (b - m) then d (k + (m - a)) else d (k - (b - m))
def swr (d : Nat → α) (a b n : Nat) : Nat → α := fun k => if a ≤ k ∧ k < a + n then d (k - a + b) else if b ≤ k ∧ k < b + n then d (k - b + a) else d k
theorem rot_out (h : k < a ∨ b ≤ k) : rot d a m b k = d k := if_pos h
theorem rot_lo (h1 : a ≤ k) (h2 : k < a + (b - m)) (h3 : a ≤ m) (h4 : m ≤ b) : rot d a m b k = d (k + (m - a)) := by unfold rot; rw [if_neg (by omega), if_pos h2]
theorem rot_hi (h1 : a + (b - m) ≤ k) (h2 : k < b) : rot d a m b k = d (k - (b - m)) := by unfold rot; rw [if_neg (by omega), if_neg (by omega)]
theorem rot_mv (h1 : a ≤ m) (h2 : m ≤ b) : Mv a b d (rot d a m b) := by
  refine ⟨rot (fun k => k) a m b, rot (fun k => k) a (a + (b - m)) b, fun k => ?_, fun k => ?_, fun k hk => rot_out hk, fun k => ?_⟩
  · by_cases h3 : k < a ∨ b ≤ k
    · rw [rot_out h3, rot_out h3]
    · by_cases h4 : k < m
      · rw [rot_lo (m := a + (b - m)) (by omega) (by omega) (by omega) (by omega), rot_hi (by omega) (by omega)]; omega
      · rw [rot_hi (m := a + (b - m)) (by omega) (by omega), rot_lo (by omega) (by omega) (by omega) (by omega)]; omega
  · by_cases h3 : k < a ∨ b ≤ k
    · rw [rot_out h3, rot_out h3]
    · by_cases h4 : k < a + (b - m)
      · rw [rot_lo (by omega) h4 (by omega) (by omega), rot_hi (by omega) (by omega)]; omega
      · rw [rot_hi (m := m) (by omega) (by omega), rot_lo (m := a + (b - m)) (by omega) (by omega) (by omega) (by omega)]; omega
  · unfold rot
    repeat' split
    all_goals rfl
theorem swr_zero : swr d a b 0 = d := by
  funext k
  unfold swr
  rw [if_neg (by omega), if_neg (by omega)]
theorem swr_one (h : a + i < b) : swp (swr d a b i) (a + i) (b + i) = swr d a b (i + 1) := by
  funext k
  unfold swp
  by_cases h1 : k = a + i
  · subst h1
    rw [if_pos rfl]
    unfold swr
    rw [if_neg (by omega), if_neg (by omega), if_pos (by omega)]
    congr 1; omega
  · rw [if_neg h1]
    by_cases h2 : k = b + i
    · subst h2
      rw [if_pos rfl]
      unfold swr
      rw [if_neg (by omega), if_neg (by omega), if_neg (by omega), if_pos (by omega)]
      congr 1; omega
    · rw [if_neg h2]
      unfold swr
      by_cases h3 : a ≤ k ∧ k < a + i
      · rw [if_pos h3, if_pos (by omega)]
      · rw [if_neg h3]
        by_cases h4 : b ≤ k ∧ k < b + i
        · rw [if_pos h4, if_neg (by omega), if_pos (by omega)]
        · rw [if_neg h4, if_neg (by omega), if_neg (by omega)]
theorem rot_left (hij : j < i) (hm : i ≤ m) : rot (swr d (m - i) m j) (m - (i - j)) m (m + j) = rot d (m - i) m (m + j) := by
  funext k
  by_cases h1 : k < m - i ∨ m + j ≤ k
  · rw [rot_out (by omega), rot_out h1]
    unfold swr
    rw [if_neg (by omega), if_neg (by omega)]
  · by_cases h2 : k < m - i + j
    · rw [rot_out (by omega), rot_lo (by omega) (by omega) (by omega) (by omega)]
      unfold swr
      rw [if_pos (by omega)]
      congr 1; omega
    · rw [rot_hi (m := m) (a := m - i) (by omega) (by omega)]
      by_cases h3 : k < m - (i - j) + j
      · rw [rot_lo (by omega) (by omega) (by omega) (by omega)]
        unfold swr
        rw [if_neg (by omega), if_pos (by omega)]
        congr 1; omega
      · rw [rot_hi (by omega) (by omega)]
        unfold swr
        rw [if_neg (by omega), if_neg (by omega)]
theorem rot_right (hij : i < j) (hm : i ≤ m) : rot (swr d (m - i) (m + j - i) i) (m - i) m (m + (j - i)) = rot d (m - i) m (m + j) := by
  funext k
  by_cases h1 : k < m - i ∨ m + j ≤ k
  · rw [rot_out (by omega), rot_out h1]
    unfold swr
    rw [if_neg (by omega), if_neg (by omega)]
  · by_cases h2 : k < m - i + j
    · rw [rot_lo (m := m) (b := m + j) (by omega) (by omega) (by omega) (by omega)]
      by_cases h3 : k < m - i + (j - i)
      · rw [rot_lo (by omega) (by omega) (by omega) (by omega)]
        unfold swr
        rw [if_neg (by omega), if_neg (by omega)]
      · rw [rot_hi (by omega) (by omega)]
        unfold swr
        rw [if_pos (by omega)]
        congr 1; omega
    · rw [rot_hi (m := m) (b := m + j) (by omega) (by omega), rot_out (by omega)]
      unfold swr
      rw [if_neg (by omega), if_pos (by omega)]
      congr 1; omega
theorem rot_same (hm : i ≤ m) : swr d (m - i) m i = rot d (m - i) m (m + i) := by
  funext k
  by_cases h1 : k < m - i ∨ m + i ≤ k
  · rw [rot_out h1]
    unfold swr
    rw [if_neg (by omega), if_neg (by omega)]
  · by_cases h2 : k < m
    · rw [rot_lo (by omega) (by omega) (by omega) (by omega)]
      unfold swr
      rw [if_pos (by omega)]
      congr 1; omega
    · rw [rot_hi (by omega) (by omega)]
      unfold swr
      rw [if_neg (by omega), if_pos (by omega)]
      congr 1; omega
theorem down_none : rot d i i (i + 1) = d := by
  funext k
  by_cases h : k < i ∨ i + 1 ≤ k
  · exact rot_out h
  · rw [rot_lo (by omega) (by omega) (by omega) (by omega)]; congr 1; omega
theorem down_one (hj : j + 1 ≤ i) : swp (rot d (j + 1) i (i + 1)) (j + 1) j = rot d j i (i + 1) := by
  funext k
  unfold swp
  by_cases h1 : k = j + 1
  · subst h1
    rw [if_pos rfl, rot_out (by omega), rot_hi (by omega) (by omega)]
    congr 1; omega
  · rw [if_neg h1]
    by_cases h2 : k = j
    · subst h2
      rw [if_pos rfl, rot_lo (by omega) (by omega) (by omega) (by omega), rot_lo (by omega) (by omega) (by omega) (by omega)]
      congr 1; omega
    · rw [if_neg h2]
      by_cases h3 : k < j ∨ i + 1 ≤ k
      · rw [rot_out (by omega), rot_out h3]
      · rw [rot_hi (by omega) (by omega), rot_hi (by omega) (by omega)]
theorem up_none : rot d a (a + 1) (a + 1) = d := by
  funext k
  by_cases h : k < a ∨ a + 1 ≤ k
  · exact rot_out h
  · rw [rot_hi (by omega) (by omega)]; congr 1; omega
theorem up_one (hk : a ≤ k) : swp (rot d a (a + 1) (k + 1)) k (k + 1) = rot d a (a + 1) (k + 2) := by
  funext x
  unfold swp
  by_cases h1 : x = k
  · subst h1
    rw [if_pos rfl, rot_out (by omega), rot_lo (by omega) (by omega) (by omega) (by omega)]
    congr 1; omega
  · rw [if_neg h1]
    by_cases h2 : x = k + 1
    · subst h2
      rw [if_pos rfl, rot_hi (by omega) (by omega), rot_hi (by omega) (by omega)]
      congr 1; omega
    · rw [if_neg h2]
      by_cases h3 : x < a ∨ k + 2 ≤ x
      · rw [rot_out (by omega), rot_out h3]
      · rw [rot_lo (by omega) (by omega) (by omega) (by omega), rot_lo (by omega) (by omega) (by omega) (by omega)]
variable {lt : α → α → Prop} {x : α → Nat}
def Ord (lt : α → α → Prop) (d : Nat → α) (a b : Nat) : Prop := ∀ i j, a ≤ i → i < j → j < b → lt (d i) (d j)
def Came (x : α → Nat) (d : Nat → α) (a m b : Nat) : Prop := ∀ i j, a ≤ i → i < m → m ≤ j → j < b → x (d i) < x (d j)
theorem Ord.one : Ord lt d a (a + 1) := fun i j h1 h2 h3 => by omega
theorem Ord.nil (h : b ≤ a) : Ord lt d a b := fun i j h1 h2 h3 => by omega
theorem Ord.sub {a' b' : Nat} (h : Ord lt d a b) (h1 : a ≤ a') (h2 : b' ≤ b) : Ord lt d a' b' := fun i j g1 g2 g3 => h i j (by omega) g2 (by omega)
theorem Ord.congr (h : Ord lt d a b) (he : ∀ k, a ≤ k → k < b → e k = d k) : Ord lt e a b := fun i j g1 g2 g3 => by rw [he i g1 (by omega), he j (by omega) g3]; exact h i j g1 g2 g3
theorem Came.sub {a' b' : Nat} (h : Came x d a m b) (h1 : a ≤ a') (h2 : b' ≤ b) : Came x d a' m b' := fun i j g1 g2 g3 g4 => h i j (by omega) g2 g3 (by omega)
theorem Came.lo (h : Came x d a m b) (g : Mv a m d e) : Came x e a m b := fun i j g1 g2 g3 g4 => by
  obtain ⟨i', h1, h2, h3⟩ := g.to g1 g2
  rw [h3, g.out (.inr g3)]
  exact h i' j h1 h2 g3 g4
theorem Came.hi (h : Came x d a m b) (g : Mv m b d e) : Came x e a m b := fun i j g1 g2 g3 g4 => by
  obtain ⟨j', h1, h2, h3⟩ := g.to g3 g4
  rw [h3, g.out (.inl g2)]
  exact h i j' g1 g2 h1 h2
theorem Ord.join (h1 : Ord lt d a m) (h2 : Ord lt d m b) (h3 : ∀ i j, a ≤ i → i < m → m ≤ j → j < b → lt (d i) (d j)) : Ord lt d a b := fun i j g1 g2 g3 => by
  by_cases h4 : j < m
  · exact h1 i j g1 g2 h4
  · by_cases h5 : m ≤ i
    · exact h2 i j h5 g2 g3
    · exact h3 i j g1 (by omega) (by omega) g3
theorem across_lo (h : ∀ i j, a ≤ i → i < m → m ≤ j → j < b → lt (d i) (d j)) (g : Mv a m d e) : ∀ i j, a ≤ i → i < m → m ≤ j → j < b → lt (e i) (e j) := fun i j g1 g2 g3 g4 => by
  obtain ⟨i', h1, h2, h3⟩ := g.to g1 g2
  rw [h3, g.out (.inr g3)]
  exact h i' j h1 h2 g3 g4
theorem across_hi (h : ∀ i j, a ≤ i → i < m → m ≤ j → j < b → lt (d i) (d j)) (g : Mv m b d e) : ∀ i j, a ≤ i → i < m → m ≤ j → j < b → lt (e i) (e j) := fun i j g1 g2 g3 g4 => by
  obtain ⟨j', h1, h2, h3⟩ := g.to g3 g4
  rw [h3, g.out (.inl g2)]
  exact h i j' g1 g2 h1 h2
theorem Ord.down (h : Ord lt d a i) (ha : a ≤ j) (hj : j ≤ i) (h1 : ∀ k, a ≤ k → k < j → lt (d k) (d i)) (h2 : ∀ k, j ≤ k → k < i → lt (d i) (d k)) : Ord lt (rot d j i (i + 1)) a (i + 1) := fun p q g1 g2 g3 => by
  by_cases hq : q < j
  · rw [rot_out (by omega), rot_out (by omega)]; exact h p q g1 g2 (by omega)
  · by_cases hq2 : q = j
    · subst hq2
      rw [rot_out (by omega), rot_lo (by omega) (by omega) (by omega) (by omega), show q + (i - q) = i by omega]
      exact h1 p g1 g2
    · rw [rot_hi (k := q) (by omega) (by omega)]
      by_cases hp : p < j
      · rw [rot_out (by omega)]; exact h _ _ g1 (by omega) (by omega)
      · by_cases hp2 : p = j
        · subst hp2
          rw [rot_lo (by omega) (by omega) (by omega) (by omega), show p + (i - p) = i by omega]
          exact h2 _ (by omega) (by omega)
        · rw [rot_hi (by omega) (by omega)]
          exact h _ _ (by omega) (by omega) (by omega)
theorem Ord.up (h : Ord lt d (a + 1) b) (ha : a + 1 ≤ i) (hi : i ≤ b) (h1 : ∀ k, a + 1 ≤ k → k < i → lt (d k) (d a)) (h2 : ∀ k, i ≤ k → k < b → lt (d a) (d k)) : Ord lt (rot d a (a + 1) i) a b := fun p q g1 g2 g3 => by
  by_cases hp : i ≤ p
  · rw [rot_out (by omega), rot_out (by omega)]; exact h p q (by omega) g2 g3
  · by_cases hp2 : p = i - 1
    · subst hp2
      rw [rot_hi (by omega) (by omega), rot_out (by omega), show i - 1 - (i - (a + 1)) = a by omega]
      exact h2 q (by omega) g3
    · rw [rot_lo (k := p) (by omega) (by omega) (by omega) (by omega)]
      by_cases hq : i ≤ q
      · rw [rot_out (by omega)]; exact h _ _ (by omega) (by omega) g3
      · by_cases hq2 : q = i - 1
        · subst hq2
          rw [rot_hi (by omega) (by omega), show i - 1 - (i - (a + 1)) = a by omega]
          exact h1 _ (by omega) (by omega)
        · rw [rot_lo (by omega) (by omega) (by omega) (by omega)]
          exact h _ _ (by omega) (by omega) (by omega)
end Srt
end Go.Proofs.YtkjjlppfomidbaaGreat
/- Sxw: Rows of the call's own whose elements move: elements by their places; calls that hand back nothing and write into the caller's memory; conditions: none. -/
namespace Go.Proofs.YtkjjlppfomidbaaGreat
namespace Sx
open Go Go.RowKit Srt
set_option linter.unusedSimpArgs false
def rowL {α : Type} (f : α → List Value) (n : Nat) (d : Nat → α) : List Value := ((List.range n).map d).flatMap f
def upd {α : Type} (d : Nat → α) (i : Nat) (x : α) : Nat → α := fun k => if k = i then x else d k
theorem upd_swp {α : Type} (d : Nat → α) (i j : Nat) : upd (upd d i (d j)) j (d i) = swp d i j := by
  funext k
  unfold upd swp
  by_cases h1 : k = j
  · by_cases h2 : k = i
    · rw [if_pos h1, if_pos h2, ← h1, ← h2]
    · rw [if_pos h1, if_neg h2, if_pos h1]
  · rw [if_neg h1, if_neg h1]
theorem rowL_len {α : Type} {f : α → List Value} {sz : Nat} (hf : ∀ a, (f a).length = sz) (n : Nat) (d : Nat → α) : (rowL f n d).length = n * sz := by
  unfold rowL; rw [flat_len hf, List.length_map, List.length_range]
theorem rowL_sl {α : Type} {f : α → List Value} {sz n i : Nat} (hf : ∀ a, (f a).length = sz) (hsz : 0 < sz) {d : Nat → α} (hi : i < n) {z : Int} (hz : z = (i : Int)) : sl (0 + z.toNat * sz) sz (rowL f n d) = some (f (d i)) := by
  subst hz
  have := sl_of (off := 0 + (i : Int).toNat * sz) (cs := rowL f n d) (vs := f (d i)) (.inl (by rw [hf]; exact hsz)) fun j v hj => by
    rw [Int.toNat_natCast, Nat.zero_add]
    exact flat_at hf _ i j (d i) v (by simp [hi]) hj
  rwa [hf] at this
theorem setAll_at : ∀ (vs cs : List Value) (off k : Nat), (setAll cs off vs)[k]? = if off ≤ k ∧ k < off + vs.length ∧ k < cs.length then vs[k - off]? else cs[k]?
  | [], cs, off, k => by rw [setAll, if_neg (by simp; omega)]
  | v :: vs, cs, off, k => by
    rw [setAll, setAll_at vs (cs.set off v) (off + 1) k, List.length_set, List.length_cons]
    by_cases h1 : k = off
    · subst h1
      rw [if_neg (by omega)]
      by_cases h2 : k < cs.length
      · rw [if_pos ⟨by omega, by omega, h2⟩]; simp [h2]
      · rw [if_neg (by omega)]; simp [h2]
    · by_cases h2 : off + 1 ≤ k ∧ k < off + 1 + vs.length ∧ k < cs.length
      · rw [if_pos h2, if_pos (by omega), show k - off = (k - (off + 1)) + 1 by omega, List.getElem?_cons_succ]
      · rw [if_neg h2, if_neg (by omega), List.getElem?_set_ne (by omega)]
theorem setAll_row {α : Type} {f : α → List Value} {sz n i : Nat} (hf : ∀ a, (f a).length = sz) {d : Nat → α} (hi : i < n) (x : α) : setAll (rowL f n d) (i * sz) (f x) = rowL f n (upd d i x) := by
  have hle : i * sz + sz ≤ n * sz := by rw [← Nat.succ_mul]; exact Nat.mul_le_mul_right _ hi
  apply List.ext_getElem?
  intro k
  rw [setAll_at, hf, rowL_len hf]
  by_cases hk : k < n * sz
  · have hpos : 0 < sz := by
      rcases Nat.eq_zero_or_pos sz with h0 | h0
      · subst h0; simp at hk
      · exact h0
    have e := Nat.div_add_mod k sz
    have hm := Nat.mod_lt k hpos
    have hq : k / sz < n := by rw [Nat.div_lt_iff_lt_mul hpos]; exact hk
    have hkk : k = k / sz * sz + k % sz := by rw [Nat.mul_comm]; exact e.symm
    have cell : ∀ (g : Nat → α), (rowL f n g)[k]? = (f (g (k / sz)))[k % sz]? := fun g => by
      have h1 : (f (g (k / sz)))[k % sz]? = some ((f (g (k / sz)))[k % sz]'(by rw [hf]; exact hm)) := List.getElem?_eq_getElem _
      rw [h1]
      have := flat_at hf ((List.range n).map g) (k / sz) (k % sz) (g (k / sz)) _ (by simp [hq]) h1
      rw [← hkk] at this
      exact this
    by_cases hi2 : k / sz = i
    · rw [if_pos ⟨by rw [← hi2]; omega, by rw [← hi2]; omega, hk⟩, cell]
      unfold upd
      rw [if_pos hi2, show k - i * sz = k % sz by rw [← hi2]; omega]
    · have : ¬ (i * sz ≤ k ∧ k < i * sz + sz) := by
        rintro ⟨h1, h2⟩
        apply hi2
        apply Nat.div_eq_of_lt_le h1
        rw [Nat.succ_mul]; exact h2
      rw [if_neg (by omega), cell, cell]
      unfold upd
      rw [if_neg hi2]
  · rw [if_neg (by omega), List.getElem?_eq_none (by rw [rowL_len hf]; omega), List.getElem?_eq_none (by rw [rowL_len hf]; omega)]
section
variable {P : Program} {E : Env} {Q : Exit → Tm → Hp → Prop} {t : Tm} {H : Hp}
def ret0 (R : Hp → Prop) : Exit → Tm → Hp → Prop
  | .ret, _, H | .normal, _, H => R H
  | _, _, _ => False
theorem r0_ret {R : Hp → Prop} (h : R H) : ret0 R .ret t H := h
theorem r0_normal {R : Hp → Prop} (h : R H) : ret0 R .normal t H := h
theorem results_none {fn : Func} {w : World} {a : Array Value} (hr : fn.results = #[]) : (results fn a).run P w = .ok (.tuple #[]) w := by
  simp [results, hr, pure, Sem.run]
theorem callsH0 {B m : Nat} {w0 : World} {f : FuncId} {fn : Func} {c : Code} {args : List Value} {n : Nat} {K : Hp → Prop}
    (hf : P.funcs[f]? = some fn) (hb : fn.body = some c) (hn : fn.ntmps = n) (hl : Nat.ble args.length n = true) (hr : fn.results = #[])
    (h : aw P ⟨B, w0, n⟩ c (ret0 fun H' => ∃ H1, H1.Sublist H' ∧ K H1) (tm0 args) H) : CallsH P ⟨B, w0, m⟩ f args H fun u H' => u = .tuple #[] ∧ K H' := by
  refine callsH_of_aw hf hb hn hl h fun e a t' H' r1 q => ?_
  unfold ret0 at q
  cases e with
  | normal =>
    obtain ⟨H1, hs, hk⟩ := q
    exact ⟨.inl rfl, _, H1, H1, fun w' _ => results_none hr, hs, List.Perm.refl _, rfl, hk⟩
  | ret =>
    obtain ⟨H1, hs, hk⟩ := q
    exact ⟨.inr rfl, _, H1, H1, fun w' _ => results_none hr, hs, List.Perm.refl _, rfl, hk⟩
  | exit _ => exact q.elim
  | goto _ => exact q.elim
  | panic _ => exact q.elim
  | outgrown => exact q.elim
theorem callsF0 {B m : Nat} {w0 : World} {f : FuncId} {fn : Func} {c : Code} {args : List Value} {n : Nat} {l l' : Hp}
    (hf : P.funcs[f]? = some fn) (hb : fn.body = some c) (hn : fn.ntmps = n) (hl : Nat.ble args.length n = true) (hr : fn.results = #[])
    (h : ∀ R, aw P ⟨B, w0, n⟩ c (ret0 fun H' => (l' ++ R).Sublist H') (tm0 args) (l ++ R)) : CallsF P ⟨B, w0, m⟩ f args l (.tuple #[]) l' := fun R =>
  callsH0 hf hb hn hl hr (K := fun H' => H' = l' ++ R) (aw_mono (h R) fun e t H hq => by
    cases e with
    | normal => exact ⟨_, hq, rfl⟩
    | ret => exact ⟨_, hq, rfl⟩
    | exit _ => exact hq.elim
    | goto _ => exact hq.elim
    | panic _ => exact hq.elim
    | outgrown => exact hq.elim)
end
attribute [irreducible] rowL
end Sx
end Go.Proofs.YtkjjlppfomidbaaGreat
