/- Arguments that hold slices of anything: what their cells are, element by element; conditions: none. -/
import Derived.Test.YtpenogailhlcaaaSxo
namespace Go.Proofs.Ytpenogailhlcaaa
namespace Sx
open Go Go.RowKit

section
variable {H : Type} {enc : TypeId × Value → H} {P : Program} {w : World} {sp : Nat → Bool} {held : Bool}

theorem cell_plain {a : Addr} {v : Value} (h : w.cell? a = some v) : a.spot = none ∧ a.block < w.heap.size := by
  unfold World.cell? at h
  split at h
  · rename_i hb
    refine ⟨?_, (Array.getElem?_eq_some_iff.1 hb).1⟩
    split at h
    · cases h
    · rename_i hs
      cases hq : a.spot
      · rfl
      · rw [hq] at hs; exact absurd rfl hs
  · cases h
/-- A slice, whose elements are read by themselves. -/
theorem open_slice_g {α : Type} {f : α → List Value} {sz fuel : Nat} {Q : α → Prop} {t e : TypeId} {v : Value} {x : DataW H × List MemPlace} (hu : P.underlying t = some (.slice e)) (hc : P.cellsOf e = sz) (hz : 0 < sz) (hf : ∀ a, (f a).length = sz)
    (hfit : ∀ (fuel : Nat) c x, DataW.trod enc P w 0 sp held fuel e c = some x → ∃ a, c = f a ∧ Q a) (hd : DataW.trod enc P w 0 sp held fuel t [v] = some x) :
    ∃ us : List α, OldCap w sz v us.length (us.flatMap f) ∧ ∀ a ∈ us, Q a := by
  rcases DataW.trod_slice hu hd with ⟨h0, -⟩ | ⟨a, len, cap, elems, rest, n, -, hcs, -, -, hlc, -, hel, hall, -⟩
  · cases h0
    exact ⟨[], ⟨OldRow.nil, fun a k c h => by cases h; exact Nat.le_refl _⟩, fun a h => by simp at h⟩
  · cases hcs
    have key : ∀ k, k ≤ len → ∃ us : List α, us.length = k ∧ (∀ a ∈ us, Q a) ∧ ∀ (i : Nat) (b : α), us[i]? = some b → ∀ (j : Nat) u, (f b)[j]? = some u → w.cell? ((a.add (i * sz)).add j) = some u := by
      intro k
      induction k with
      | zero => exact fun _ => ⟨[], rfl, fun a h => by simp at h, fun i a h => by simp at h⟩
      | succ k ih =>
        intro hk
        obtain ⟨us, h1, h2, h3⟩ := ih (by omega)
        have hE := hall k (by omega)
        rw [List.getElem?_eq_getElem (show k < elems.length by omega)] at hE
        obtain ⟨cs, hcs, hcd⟩ := Option.bind_eq_some_iff.1 hE
        obtain ⟨b, rfl, hpb⟩ := hfit _ cs _ hcd
        obtain ⟨-, hcl, hcell⟩ := World.cells?_some hcs
        refine ⟨us ++ [b], by simp [h1], fun c hb => ?_, fun i c hb j u hj => ?_⟩
        · rcases List.mem_append.1 hb with hb | hb
          · exact h2 c hb
          · obtain rfl : c = b := by simpa using hb
            exact hpb
        · by_cases hi : i < us.length
          · rw [List.getElem?_append_left hi] at hb
            exact h3 i c hb j u hj
          · rw [List.getElem?_append_right (by omega)] at hb
            have hi0 : i - us.length = 0 := by have := (List.getElem?_eq_some_iff.1 hb).1; simp at this; omega
            rw [hi0] at hb
            simp only [List.getElem?_cons_zero, Option.some.injEq] at hb
            subst hb
            have hjl := (List.getElem?_eq_some_iff.1 hj).1
            rw [hf] at hjl
            have := hcell j (by rw [hc]; exact hjl)
            rw [hj, hc] at this
            rw [show i = k by omega]
            exact this
    obtain ⟨us, h1, h2, h3⟩ := key len (Nat.le_refl _)
    refine ⟨us, ⟨⟨flat_len hf us, some a, cap, by rw [h1], fun h0 => ?_⟩, fun a k c h => by cases h; exact hlc⟩, h2⟩
    obtain ⟨b, hb⟩ : ∃ b, us[0]? = some b := ⟨_, List.getElem?_eq_getElem h0⟩
    obtain ⟨u, hu0⟩ : ∃ u, (f b)[0]? = some u := ⟨_, List.getElem?_eq_getElem (by rw [hf]; exact hz)⟩
    have hfirst := h3 0 b hb 0 u hu0
    rw [Nat.zero_mul] at hfirst
    have hplain := cell_plain (show w.cell? a = some u from hfirst)
    obtain ⟨g, o, s⟩ := a
    simp only at hplain
    obtain ⟨hs, hg⟩ := hplain
    subst hs
    refine ⟨g, o, rfl, hg, fun j u hj => ?_⟩
    obtain ⟨i, r', b', rfl, hi, hr⟩ := flat_at_inv hf us j u hj
    have := h3 i b' hi r' u hr
    rw [add_off, add_off, Nat.add_assoc] at this
    exact this
theorem slice_cell {W : World} {r : Reach} {base : Nat} {t e : TypeId} {v : Value} (hu : P.underlying t = some (.slice e)) (h : Cell.okWide P W r base t v) : ∃ a n c, v = .slice a n c := by
  unfold Cell.okWide at h
  rw [hu] at h
  cases v <;> first | exact ⟨_, _, _, rfl⟩ | (simp [Cell.ok, hu] at h)
/-- A struct's field, with its cells. -/
theorem open_struct_part {fuel : Nat} {t : TypeId} {cs : List Value} {x : DataW H × List MemPlace}
    (hd : DataW.trod enc P w 0 sp held fuel t cs = some x) {i : Nat} {e : TypeId} {o : Nat} (hf : fieldAt P t i = some (e, o)) :
    ∃ fuel' y, DataW.trod enc P w 0 sp held fuel' e ((cs.drop o).take (P.cellsOf e)) = some y := by
  unfold fieldAt at hf
  split at hf
  · rename_i fs hu
    obtain ⟨f, hf2, hq⟩ := Option.map_eq_some_iff.1 hf
    cases hq
    obtain ⟨xs, n, -, -, -, hl, hall⟩ := DataW.trod_struct hu hd
    have := hall i f hf2
    have hlt : i < xs.length := by rw [hl]; exact (Array.getElem?_eq_some_iff.1 hf2).1
    rw [List.getElem?_eq_getElem hlt] at this
    exact ⟨n, _, this⟩
  · cases hf
theorem struct_len {fuel : Nat} {t : TypeId} {cs : List Value} {x : DataW H × List MemPlace}
    (hd : DataW.trod enc P w 0 sp held fuel t cs = some x) {i : Nat} {e : TypeId} {o : Nat} (hf : fieldAt P t i = some (e, o)) : cs.length = P.cellsOf t := by
  unfold fieldAt at hf
  split at hf
  · rename_i fs hu
    obtain ⟨xs, n, -, -, h, -⟩ := DataW.trod_struct hu hd
    exact h
  · cases hf
end
end Sx
end Go.Proofs.Ytpenogailhlcaaa
