/- Vectors and resources that come in: what they are, from a row's condition on its arguments; conditions: none. -/
import Derived.Test.YthabchmfhfhcaaaOsl
import Derived.Test.YthabchmfhfhcaaaVsum
namespace Go.Proofs.Ythabchmfhfhcaaa
namespace Vec
open Go Go.RowKit Sx Wid
set_option maxRecDepth 100000

theorem fit_ent (c : List Value) (h : FitL [.string, .int .i64, .int .u64] c) : ∃ e : Ent, c = cellsE e ∧ inW e.2 := by
  obtain ⟨a, b, d, rfl⟩ := len3 h.len
  obtain ⟨⟨l, rfl⟩, ⟨hi, rfl, h1, h2⟩, ⟨lo, rfl, h3, h4⟩, -⟩ := h
  have e1 : IntKind.i64.min = -9223372036854775808 := by decide
  have e2 : IntKind.i64.max = 9223372036854775807 := by decide
  have e3 : IntKind.u64.min = 0 := by decide
  have e4 : IntKind.u64.max = 18446744073709551615 := by decide
  have hw : isW hi lo := by unfold isW; omega
  exact ⟨(l, num hi lo), by unfold cellsE; simp only [sHi_num hw, sLo_num hw], num_inW hw⟩
theorem fit_res (c : List Value) (h : FitL [.string, .int .i64] c) : ∃ r : Ent, c = cellsR r ∧ -9223372036854775808 ≤ r.2 ∧ r.2 ≤ 9223372036854775807 := by
  obtain ⟨a, b, rfl⟩ := len2 h.len
  obtain ⟨⟨l, rfl⟩, ⟨n, rfl, h1, h2⟩, -⟩ := h
  have e1 : IntKind.i64.min = -9223372036854775808 := by decide
  have e2 : IntKind.i64.max = 9223372036854775807 := by decide
  exact ⟨(l, n), rfl, by omega, by omega⟩
section
variable {H : Type} {enc : TypeId × Value → H} {W : World} {sp : Nat → Bool} {held : Bool} {r : Reach} {base : Nat}

theorem open_vec {fuel : Nat} {v : Value} {x : DataW H × List MemPlace} (hv : Cell.okWide Try.prog W r base 30 v) (hd : DataW.trod enc Try.prog W 0 sp held fuel 30 [v] = some x) : ∃ es : List Ent, VecCap W v es ∧ ∀ e ∈ es, inW e.2 :=
  open_slice (P := Try.prog) (t := 30) (e := 51) (ds := [.string, .int .i64, .int .u64]) (f := cellsE) (p := fun e => inW e.2) (by kernel_rfl) (by kernel_rfl) (by kernel_rfl) cellsE_len fit_ent hv hd
theorem slice_cell {P : Program} {t e : TypeId} {v : Value} (hu : P.underlying t = some (.slice e)) (h : Cell.okWide P W r base t v) : ∃ a n c, v = .slice a n c := by
  unfold Cell.okWide at h
  rw [hu] at h
  cases v <;> first | exact ⟨_, _, _, rfl⟩ | (simp [Cell.ok, hu] at h)
theorem open_res {v : Value} {d : DataW H} {ps : List MemPlace} (hv : Value.okWide Try.prog W r base 24 v) (hd : DataW.Trod enc Try.prog W 0 sp held 24 v d ps) : ∃ rs : List Ent, ResAt W v rs ∧ ∀ r ∈ rs, -9223372036854775808 ≤ r.2 ∧ r.2 ≤ 9223372036854775807 := by
  have hu : Try.prog.underlying 24 = some (.slice 43) := by kernel_rfl
  have hc : Cell.okWide Try.prog W r base 24 v := by unfold Value.okWide at hv; rw [hu] at hv; exact hv
  obtain ⟨a, n, c, rfl⟩ := slice_cell hu hc
  obtain ⟨fuel, hd⟩ := hd
  obtain ⟨us, h1, h2⟩ := open_slice (P := Try.prog) (t := 24) (e := 43) (ds := [.string, .int .i64]) (f := cellsR) (p := fun r => -9223372036854775808 ≤ r.2 ∧ r.2 ≤ 9223372036854775807) hu (by kernel_rfl) (by kernel_rfl) cellsR_len fit_res hc hd
  exact ⟨us, h1.1, h2⟩
end
end Vec
end Go.Proofs.Ythabchmfhfhcaaa
