/- Lists of acts that come in: what they are, from a row's condition on its arguments; conditions: none. -/
import Derived.Test.YtkjjlppfomidbaaGreatTrs
import Derived.Test.YtkjjlppfomidbaaGreatSxk
namespace Go.Proofs.YtkjjlppfomidbaaGreat
namespace Trt
open Go Go.RowKit Sx
set_option maxRecDepth 100000
theorem len3 {α : Type} : ∀ {l : List α}, l.length = 3 → ∃ a b c, l = [a, b, c]
  | [a, b, c], _ => ⟨a, b, c, rfl⟩
section
variable {H : Type} {enc : TypeId × Value → H} {W : World} {sp : Nat → Bool} {held : Bool} {r : Reach} {base : Nat}
theorem open_act {fuel : Nat} {c : List Value} {x : DataW H × List MemPlace} (hd : DataW.trod enc Tryz.prog W 0 sp held fuel 72 c = some x) : ∃ a : Ac, c = cellsA a ∧ 0 ≤ a.kind := by
  have hfit := flat_fit 8 fuel 72 [.int .u8, .string, .string] (by kernel_rfl) c x (by kernel_rfl) hd
  obtain ⟨v0, v1, v2, rfl⟩ := len3 (FitL.len hfit)
  obtain ⟨⟨kind, rfl, q0, -⟩, ⟨k1, rfl⟩, ⟨k2, rfl⟩, -⟩ := hfit
  exact ⟨⟨kind, k1, k2⟩, rfl, q0⟩
theorem open_acts {v : Value} {d : DataW H} {ps : List MemPlace} (hv : Value.okWide Tryz.prog W r base 24 v) (hd : DataW.Trod enc Tryz.prog W 0 sp held 24 v d ps) : ∃ xs : List Ac, OldRow W 3 v xs.length (xs.flatMap cellsA) ∧ ∀ a ∈ xs, 0 ≤ a.kind := by
  have hu : Tryz.prog.underlying 24 = some (.slice 72) := by kernel_rfl
  have hc : Cell.okWide Tryz.prog W r base 24 v := by unfold Value.okWide at hv; rw [hu] at hv; exact hv
  obtain ⟨a, n, c, rfl⟩ := slice_cell hu hc
  obtain ⟨fuel, hd⟩ := hd
  obtain ⟨us, h1, h2⟩ := open_slice_g (P := Tryz.prog) (t := 24) (e := 72) (sz := 3) (f := cellsA) (Q := fun a => 0 ≤ a.kind) (by kernel_rfl) (by kernel_rfl) (by decide) cellsA_len (fun fuel c y hc => open_act hc) hd
  exact ⟨us, h1.1, h2⟩
end
end Trt
end Go.Proofs.YtkjjlppfomidbaaGreat
