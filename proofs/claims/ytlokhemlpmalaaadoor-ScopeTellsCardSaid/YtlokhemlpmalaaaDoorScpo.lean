/- Terms and scopes that come in: what they are, from a row's condition on its arguments; conditions: none. -/
import Derived.Test.YtlokhemlpmalaaaDoorScpg
import Derived.Test.YtlokhemlpmalaaaDoorSxj
namespace Go.Proofs.YtlokhemlpmalaaaDoor
namespace Scp
open Go Go.RowKit Sx
set_option maxRecDepth 100000

section
variable {H : Type} {enc : TypeId × Value → H} {W : World} {sp : Nat → Bool} {held : Bool} {r : Reach} {base : Nat}

theorem open_txt {fuel : Nat} {v : Value} {x : DataW H × List MemPlace} (hd : DataW.trod enc Tryd.prog W 0 sp held fuel 26 [v] = some x) : ∃ vs : List Nm, TxtAt W v vs ∧ CapV v := by
  obtain ⟨us, h1, -⟩ := open_slice_g (P := Tryd.prog) (t := 26) (e := 9) (sz := 1) (f := cellsS) (Q := fun _ => True) (by kernel_rfl) (by kernel_rfl) (by decide) cellsS_len (fun fuel c y hc => by
    have hfit := flat_fit 8 fuel 9 [.string] (by kernel_rfl) c y (by kernel_rfl) hc
    obtain ⟨a, rfl⟩ : ∃ a, c = [a] := by
      have := hfit.len
      match c, this with
      | [a], _ => exact ⟨a, rfl⟩
    obtain ⟨⟨l, rfl⟩, -⟩ := hfit
    exact ⟨l, rfl, trivial⟩) hd
  exact ⟨us, h1⟩
def opIn (op : Int) : Prop := -9223372036854775808 ≤ op ∧ op ≤ 9223372036854775807
theorem open_trm {fuel : Nat} {c : List Value} {x : DataW H × List MemPlace} (hd : DataW.trod enc Tryd.prog W 0 sp held fuel 28 c = some x) : ∃ p : Value × Trm, c = cellsT p ∧ TxtAt W p.1 p.2.2 ∧ opIn p.2.1 ∧ CapV p.1 := by
  have hl := struct_len (P := Tryd.prog) (t := 28) (i := 0) (e := 25) (o := 0) hd (by kernel_rfl)
  obtain ⟨a, b, rfl⟩ := len2 (hl.trans (by kernel_rfl))
  obtain ⟨f1, y1, h1⟩ := open_struct_part (P := Tryd.prog) (t := 28) (i := 0) (e := 25) (o := 0) hd (by kernel_rfl)
  obtain ⟨f2, y2, h2⟩ := open_struct_part (P := Tryd.prog) (t := 28) (i := 1) (e := 26) (o := 1) hd (by kernel_rfl)
  rw [show Tryd.prog.cellsOf 25 = 1 by kernel_rfl] at h1
  rw [show Tryd.prog.cellsOf 26 = 1 by kernel_rfl] at h2
  have hfit := flat_fit 8 f1 25 [.int .i64] (by kernel_rfl) _ y1 (by kernel_rfl) h1
  obtain ⟨⟨n, hn, g1, g2⟩, -⟩ := hfit
  obtain ⟨vs, hvs, hcv⟩ := open_txt h2
  have e1 : IntKind.i64.min = -9223372036854775808 := by decide
  have e2 : IntKind.i64.max = 9223372036854775807 := by decide
  subst hn
  exact ⟨(b, n, vs), rfl, hvs, ⟨by show _ ≤ n; omega, by show n ≤ _; omega⟩, hcv⟩
theorem open_scp {fuel : Nat} {v : Value} {x : DataW H × List MemPlace} (hd : DataW.trod enc Tryd.prog W 0 sp held fuel 23 [v] = some x) : ∃ ps, ScpAt W v ps ∧ (∀ p ∈ ps, opIn p.2.1) ∧ CapP ps := by
  obtain ⟨us, h1, h2⟩ := open_slice_g (P := Tryd.prog) (t := 23) (e := 28) (sz := 2) (f := cellsT) (Q := fun p => TxtAt W p.1 p.2.2 ∧ opIn p.2.1 ∧ CapV p.1) (by kernel_rfl) (by kernel_rfl) (by decide) cellsT_len (fun fuel c y hc => open_trm hc) hd
  exact ⟨us, ⟨h1.1, fun p hp => (h2 p hp).1⟩, fun p hp => (h2 p hp).2.1, fun p hp => (h2 p hp).2.2⟩
theorem open_scp1 {v : Value} {d : DataW H} {ps : List MemPlace} (hv : Value.okWide Tryd.prog W r base 23 v) (hd : DataW.Trod enc Tryd.prog W 0 sp held 23 v d ps) : ∃ ps, ScpAt W v ps ∧ (∀ p ∈ ps, opIn p.2.1) ∧ CapP ps := by
  have hu : Tryd.prog.underlying 23 = some (.slice 28) := by kernel_rfl
  have hc : Cell.okWide Tryd.prog W r base 23 v := by unfold Value.okWide at hv; rw [hu] at hv; exact hv
  obtain ⟨a, n, c, rfl⟩ := slice_cell hu hc
  obtain ⟨fuel, hd⟩ := hd
  exact open_scp hd
theorem open_trm1 {v : Value} {d : DataW H} {ps : List MemPlace} (hv : Value.okWide Tryd.prog W r base 28 v) (hd : DataW.Trod enc Tryd.prog W 0 sp held 28 v d ps) : ∃ op u vs, v = .agg #[I op, u] ∧ TxtAt W u vs ∧ opIn op := by
  obtain ⟨cs, rfl, hl, -⟩ := open_cells (P := Tryd.prog) (t := 28) (ts := [25, 26]) (by kernel_rfl) (by kernel_rfl) (by kernel_rfl) (by kernel_rfl) hv
  obtain ⟨a, b, rfl⟩ := len2 hl
  obtain ⟨fuel, hd⟩ := hd
  obtain ⟨⟨u, op, vs⟩, hc, hu, ho, -⟩ := open_trm hd
  have hc2 : [a, b] = [I op, u] := hc
  simp only [List.cons.injEq] at hc2
  obtain ⟨rfl, rfl, -⟩ := hc2
  exact ⟨op, b, vs, rfl, hu, ho⟩
theorem open_two {v : Value} {d : DataW H} {ps : List MemPlace} (hv : Value.okWide Tryd.prog W r base 24 v) (hd : DataW.Trod enc Tryd.prog W 0 sp held 24 v d ps) :
    ∃ va vb ps qs, v = .agg #[va, vb] ∧ ScpAt W va ps ∧ ScpAt W vb qs ∧ CapP ps := by
  obtain ⟨cs, rfl, hl, -⟩ := open_cells (P := Tryd.prog) (t := 24) (ts := [23, 23]) (by kernel_rfl) (by kernel_rfl) (by kernel_rfl) (by kernel_rfl) hv
  obtain ⟨va, vb, rfl⟩ := len2 hl
  obtain ⟨fuel, hd⟩ := hd
  have hu : Tryd.prog.underlying 24 = some (.array 2 23) := by kernel_rfl
  have hn : Tryd.prog.cellsOf 23 = 1 := by kernel_rfl
  obtain ⟨f1, x1, hd1⟩ := open_arr_cell (m := 2) hu hn (cs := [va, vb]) hd (i := 0) (v := va) (by decide) rfl rfl
  obtain ⟨f2, x2, hd2⟩ := open_arr_cell (m := 2) hu hn (cs := [va, vb]) hd (i := 1) (v := vb) (by decide) rfl rfl
  obtain ⟨ps, h1, -, h3⟩ := open_scp hd1
  obtain ⟨qs, h2, -, -⟩ := open_scp hd2
  exact ⟨va, vb, ps, qs, rfl, h1, h2, h3⟩
end
end Scp
end Go.Proofs.YtlokhemlpmalaaaDoor
