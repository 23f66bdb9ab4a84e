/- Lists of acts that come in: what they are, from a row's condition on its arguments; conditions: none. -/
import Derived.Test.YtpenogailhlcaaaFde
import Derived.Test.YtpenogailhlcaaaSxj
import Derived.Test.YtpenogailhlcaaaOsl
namespace Go.Proofs.Ytpenogailhlcaaa
namespace Fdt
open Go Go.RowKit Sx
set_option maxRecDepth 100000
theorem len5 {α : Type} : ∀ {l : List α}, l.length = 5 → ∃ a b c d e, l = [a, b, c, d, e]
  | [a, b, c, d, e], _ => ⟨a, b, c, d, e, rfl⟩
section
variable {H : Type} {enc : TypeId × Value → H} {W : World} {sp : Nat → Bool} {held : Bool} {r : Reach} {base : Nat}

theorem open_act {fuel : Nat} {c : List Value} {x : DataW H × List MemPlace} (hd : DataW.trod enc Try.prog W 0 sp held fuel 37 c = some x) : ∃ a : Ac, c = cellsA a ∧ 0 ≤ a.kind := by
  have hfit := flat_fit 8 fuel 37 [.int .u8, .string, .string, .string, .int .i64] (by kernel_rfl) c x (by kernel_rfl) hd
  obtain ⟨v0, v1, v2, v3, v4, rfl⟩ := len5 (FitL.len hfit)
  obtain ⟨⟨kind, rfl, q0, -⟩, ⟨k1, rfl⟩, ⟨k2, rfl⟩, ⟨k3, rfl⟩, ⟨n, rfl, -, -⟩, -⟩ := hfit
  exact ⟨⟨kind, (k1, k2, k3), n⟩, rfl, q0⟩
theorem open_acts {v : Value} {d : DataW H} {ps : List MemPlace} (hv : Value.okWide Try.prog W r base 22 v) (hd : DataW.Trod enc Try.prog W 0 sp held 22 v d ps) : ∃ xs : List Ac, OldRow W 5 v xs.length (xs.flatMap cellsA) ∧ ∀ a ∈ xs, 0 ≤ a.kind := by
  have hu : Try.prog.underlying 22 = some (.slice 37) := by kernel_rfl
  have hc : Cell.okWide Try.prog W r base 22 v := by unfold Value.okWide at hv; rw [hu] at hv; exact hv
  obtain ⟨a, n, c, rfl⟩ := slice_cell hu hc
  obtain ⟨fuel, hd⟩ := hd
  obtain ⟨us, h1, h2⟩ := open_slice_g (P := Try.prog) (t := 22) (e := 37) (sz := 5) (f := cellsA) (Q := fun a => 0 ≤ a.kind) (by kernel_rfl) (by kernel_rfl) (by decide) cellsA_len (fun fuel c y hc => open_act hc) hd
  exact ⟨us, h1.1, h2⟩
end
end Fdt
end Go.Proofs.Ytpenogailhlcaaa
