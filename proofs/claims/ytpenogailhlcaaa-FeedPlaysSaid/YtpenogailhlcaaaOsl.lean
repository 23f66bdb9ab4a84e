/- Slices of plain structs that come in: what their cells are, as a list of rows; conditions: none. -/
import Derived.Test.YtpenogailhlcaaaFrame
import Derived.Test.YtpenogailhlcaaaSxt
import Derived.ChangeArms
namespace Go.Proofs.Ytpenogailhlcaaa
namespace Sx
open Go Go.RowKit

def fitsD : TypeDesc → Value → Prop
  | .string, v => ∃ l : List UInt8, v = S l
  | .int k, v => ∃ n, v = .int k n ∧ k.min ≤ n ∧ n ≤ k.max
  | .bool, v => ∃ b, v = .bool b
  | _, _ => False
/-- Cells of these kinds. -/
def FitL : List TypeDesc → List Value → Prop
  | [], [] => True
  | d :: ds, v :: vs => fitsD d v ∧ FitL ds vs
  | _, _ => False
theorem FitL.len : ∀ {ds : List TypeDesc} {vs : List Value}, FitL ds vs → vs.length = ds.length
  | [], [], _ => rfl
  | d :: ds, v :: vs, h => by simp [FitL.len h.2]
  | [], _ :: _, h => h.elim
  | _ :: _, [], h => h.elim
theorem FitL.app : ∀ {ds es : List TypeDesc} {vs us : List Value}, FitL ds vs → FitL es us → FitL (ds ++ es) (vs ++ us)
  | [], _, [], _, _, h => h
  | _ :: _, _, _ :: _, _, h, g => ⟨h.1, FitL.app h.2 g⟩
  | [], _, _ :: _, _, h, _ => h.elim
  | _ :: _, _, [], _, h, _ => h.elim

section
variable {H : Type} {enc : TypeId × Value → H} {P : Program} {w : World} {sp : Nat → Bool} {held : Bool}

theorem shpF_fit {f n : Nat} {cs : List Value} (ih : ∀ (t : TypeId) ds, shp P f t = some ds → ∀ us (x : DataW H × List MemPlace), P.cellsOf t = ds.length → DataW.trod enc P w 0 sp held n t us = some x → FitL ds us) :
    ∀ (fs : List Field) (pos : Nat) (ds : List TypeDesc), shpF P (shp P f) pos fs = some ds → (∀ (i : Nat) (x : Field), fs[i]? = some x → ∃ y, DataW.trod enc P w 0 sp held n x.type ((cs.drop x.offset).take (P.cellsOf x.type)) = some y) →
    FitL ds ((cs.drop pos).take ds.length)
  | [], pos, ds, h, _ => by
    simp only [shpF, Option.some.injEq] at h
    subst h
    simp [FitL]
  | x :: fs, pos, ds, h, hall => by
    unfold shpF at h
    split at h
    · rename_i ds0 hnm hof hg
      split at h
      · rename_i hsz
        cases hr : shpF P (shp P f) (pos + ds0.length) fs with
        | none => rw [hr] at h; cases h
        | some r =>
          rw [hr] at h
          simp only [Option.some.injEq] at h
          subst h
          have ho := Nat.eq_of_beq_eq_true hof
          simp only [Bool.and_eq_true, beq_iff_eq] at hsz
          have hc : P.cellsOf x.type = ds0.length := by unfold Program.cellsOf; rw [hsz.1]; rfl
          obtain ⟨y, hy⟩ := hall 0 x rfl
          rw [hc, ho] at hy
          have h1 := ih x.type ds0 hg _ _ hc hy
          have h2 := shpF_fit ih fs _ r hr fun i z hz => hall (i + 1) z (by simpa using hz)
          rw [List.length_append, List.take_add, List.drop_drop]
          exact h1.app h2
      · cases h
    · cases h
theorem flat_fit : ∀ (f fuel : Nat) (t : TypeId) (ds : List TypeDesc), shp P f t = some ds → ∀ (cs : List Value) (x : DataW H × List MemPlace), P.cellsOf t = ds.length → DataW.trod enc P w 0 sp held fuel t cs = some x → FitL ds cs
  | 0, _, _, _, h => by simp [shp] at h
  | f + 1, fuel, t, ds, h => by
    intro cs x hn hd
    unfold shp at h
    split at h
    · rename_i fs hu
      split at h
      · cases h
      · obtain ⟨xs, m, rfl, -, hl, hxl, hall⟩ := DataW.trod_struct hu hd
        have := shpF_fit (cs := cs) (n := m) (fun t' ds' h' us y hc hy => flat_fit f m t' ds' h' us y hc hy) fs.toList 0 ds h fun i z hz => by
          have hz' : fs[i]? = some z := by simpa using hz
          have hi : i < xs.length := by rw [hxl]; exact (Array.getElem?_eq_some_iff.1 hz').1
          exact ⟨xs[i], (hall i z hz').trans (List.getElem?_eq_getElem hi)⟩
        rw [← hn, ← hl] at this
        simpa using this
    · rename_i hu
      cases h
      obtain ⟨b, rfl, -⟩ := DataW.trod_bool hu hd
      exact ⟨⟨b, rfl⟩, trivial⟩
    · rename_i k hu
      cases h
      obtain ⟨n, rfl, -, hw⟩ := DataW.trod_int hu hd
      simp only [Lit.wf, Bool.and_eq_true, decide_eq_true_eq] at hw
      exact ⟨⟨n, rfl, hw⟩, trivial⟩
    · rename_i hu
      cases h
      obtain ⟨s, rfl, -, -⟩ := DataW.trod_string hu hd
      exact ⟨⟨s.data.toList, rfl⟩, trivial⟩
    · cases h

/-- A slice of plain structs. -/
theorem open_slice {r : Reach} {base fuel : Nat} {t e : TypeId} {v : Value} {x : DataW H × List MemPlace} {ds : List TypeDesc} {α : Type} {f : α → List Value} {p : α → Prop} (hu : P.underlying t = some (.slice e)) (hs : shp P 8 e = some ds) (hc : P.cellsOf e = ds.length)
    (hl : ∀ a, (f a).length = ds.length) (hfit : ∀ c, FitL ds c → ∃ a, c = f a ∧ p a) (hv : Cell.okWide P w r base t v) (hd : DataW.trod enc P w 0 sp held fuel t [v] = some x) :
    ∃ us : List α, OldCap w ds.length v us.length (us.flatMap f) ∧ ∀ a ∈ us, p a := by
  rcases DataW.trod_slice hu hd with ⟨h0, -⟩ | ⟨a, len, cap, elems, rest, n, -, hcs, -, -, hlc, -, hel, hall, -⟩
  · cases h0
    exact ⟨[], ⟨OldRow.nil, fun a k c h => by cases h; exact Nat.le_refl _⟩, fun a h => by simp at h⟩
  · cases hcs
    have hok : Cell.ok P w r base t (.slice (some a) len cap) := by unfold Cell.okWide at hv; rw [hu] at hv; exact hv
    unfold Cell.ok at hok
    rw [hu] at hok
    obtain ⟨-, -, -, hspot, row, cells, hshape, -⟩ := hok
    have hblk : a.block < w.heap.size := by
      cases Nat.lt_or_ge a.block w.heap.size with
      | inl h => exact h
      | inr h => unfold World.shape? at hshape; rw [Array.getElem?_eq_none h] at hshape; cases hshape
    obtain ⟨g, o, s⟩ := a
    simp only at hspot hblk
    subst hspot
    have key : ∀ k, k ≤ len → ∃ us : List α, us.length = k ∧ (∀ a ∈ us, p a) ∧ ∀ (i : Nat) (a : α), us[i]? = some a → ∀ (j : Nat) u, (f a)[j]? = some u → w.cell? ⟨g, o + (i * ds.length + j), none⟩ = some u := by
      intro k
      induction k with
      | zero => exact fun _ => ⟨[], rfl, fun a h => by simp at h, fun i a h => by simp at h⟩
      | succ k ih =>
        intro hk
        obtain ⟨us, h1, h2, h3⟩ := ih (by omega)
        have hE := hall k (by omega)
        rw [List.getElem?_eq_getElem (show k < elems.length by omega)] at hE
        obtain ⟨cs, hcs, hcd⟩ := Option.bind_eq_some_iff.1 hE
        obtain ⟨a, rfl, hpa⟩ := hfit cs (flat_fit 8 _ _ _ hs _ _ hc hcd)
        obtain ⟨-, hcl, hcell⟩ := World.cells?_some hcs
        refine ⟨us ++ [a], by simp [h1], fun b hb => ?_, fun i b hb j u hj => ?_⟩
        · rcases List.mem_append.1 hb with hb | hb
          · exact h2 b hb
          · obtain rfl : b = a := by simpa using hb
            exact hpa
        · by_cases hi : i < us.length
          · rw [List.getElem?_append_left hi] at hb
            exact h3 i b hb j u hj
          · rw [List.getElem?_append_right (by omega)] at hb
            have hi0 : i - us.length = 0 := by have := (List.getElem?_eq_some_iff.1 hb).1; simp at this; omega
            rw [hi0] at hb
            simp only [List.getElem?_cons_zero, Option.some.injEq] at hb
            subst hb
            have hjl := (List.getElem?_eq_some_iff.1 hj).1
            rw [hl] at hjl
            have := hcell j (by rw [hc]; exact hjl)
            rw [hj, hc, add_off, add_off] at this
            rw [show i = k by omega, ← Nat.add_assoc]
            exact this
    obtain ⟨us, h1, h2, h3⟩ := key len (Nat.le_refl _)
    refine ⟨us, ⟨⟨flat_len hl us, some ⟨g, o, none⟩, cap, by rw [h1], fun _ => ⟨g, o, rfl, hblk, fun j u hj => ?_⟩⟩, fun a k c h => by cases h; exact hlc⟩, h2⟩
    obtain ⟨i, r', a, rfl, hi, hr⟩ := flat_at_inv hl us j u hj
    exact h3 i a hi r' u hr

/-- An array of slices, one cell each. -/
theorem open_arr_cell {n m fuel : Nat} {t e : TypeId} {cs : List Value} {x : DataW H × List MemPlace} (hu : P.underlying t = some (.array n e)) (hc : P.cellsOf e = 1) (hd : DataW.trod enc P w 0 sp held fuel t cs = some x) {i : Nat} {v : Value} (hi : i < n) (hv : cs[i]? = some v) (_hm : m = n) :
    ∃ fuel' y, DataW.trod enc P w 0 sp held fuel' e [v] = some y := by
  obtain ⟨xs, m', rfl, -, -, hxl, hall⟩ := DataW.trod_array hu hd
  have := hall i hi
  rw [hc, Nat.mul_one, List.getElem?_eq_getElem (show i < xs.length by omega)] at this
  have hlt := (List.getElem?_eq_some_iff.1 hv).1
  have hd1 : (cs.drop i).take 1 = [v] := by
    rw [List.drop_eq_getElem_cons hlt, (List.getElem?_eq_some_iff.1 hv).2]; rfl
  rw [hd1] at this
  exact ⟨m', _, this⟩
end
end Sx
end Go.Proofs.Ytpenogailhlcaaa
