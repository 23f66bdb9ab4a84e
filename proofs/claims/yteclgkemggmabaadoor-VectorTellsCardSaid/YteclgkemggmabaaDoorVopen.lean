/- From a row's condition on the package-level table, and on its arguments, to what the walks of layer 4 ask; conditions: none. -/
import Derived.Test.YteclgkemggmabaaDoorOsl
import Derived.Test.YteclgkemggmabaaDoorVsum
import Derived.LaidMore
import Derived.Stop.Joined
namespace Go.Proofs.YteclgkemggmabaaDoor
namespace Qty
open Go Go.RowKit Sx

theorem own : ownKnob Tryd.prog.godebug = none := by kernel_rfl
theorem gl_of_laid {W : World} (h : laidMetH Tryd.prog Rows.vectorTellsRow.laid W) : GlS W := by
  rw [MakeChecks.laidMetH_plain _ _ _ (by kernel_rfl)] at h
  obtain ⟨ps, hl, -, -⟩ := h
  have h1 := glob_of_laid (P := Tryd.prog) (n := "scutage/quantity.scales") (d := Rows.laid_scutage_quantity_scales) (g := 3) (t := 110) (f := 4) (xs := scV) (by kernel_rfl) (by kernel_rfl) (by kernel_rfl) hl (.head _)
  exact h1.2 (by decide)
/-- The heap that the program starts from meets the condition. -/
theorem door_met (os : Os) (args : Array Value) : laidMetH Tryd.prog Rows.vectorTellsRow.laid ((World.doorLaid Tryd.prog 400 os).forCall (fun _ _ => 0) ⟨#[], args, []⟩).memory :=
  laidMetH_of_parts3 (fuel := 8) (laidMet_of_run' 8 (by kernel_rfl) (by kernel_rfl)) (by kernel_rfl) (by kernel_rfl)
end Qty
namespace Vec
open Go Go.RowKit Sx Wid
set_option maxRecDepth 100000

theorem fit_ent (c : List Value) (h : FitL [.string, .int .i64, .int .u64] c) : ∃ e : Ent, c = cellsE e ∧ inW e.2 := by
  obtain ⟨a, b, d, rfl⟩ := len3 h.len
  obtain ⟨⟨l, rfl⟩, ⟨hi, rfl, h1, h2⟩, ⟨lo, rfl, h3, h4⟩, -⟩ := h
  have e1 : IntKind.i64.min = -9223372036854775808 := by decide
  have e2 : IntKind.i64.max = 9223372036854775807 := by decide
  have e3 : IntKind.u64.min = 0 := by decide
  have e4 : IntKind.u64.max = 18446744073709551615 := by decide
  have hw : isW hi lo := by unfold isW; omega
  exact ⟨(l, num hi lo), by unfold cellsE; simp only [sHi_num hw, sLo_num hw], num_inW hw⟩
theorem fit_res (c : List Value) (h : FitL [.string, .int .i64] c) : ∃ r : Ent, c = cellsR r ∧ -9223372036854775808 ≤ r.2 ∧ r.2 ≤ 9223372036854775807 := by
  obtain ⟨a, b, rfl⟩ := len2 h.len
  obtain ⟨⟨l, rfl⟩, ⟨n, rfl, h1, h2⟩, -⟩ := h
  have e1 : IntKind.i64.min = -9223372036854775808 := by decide
  have e2 : IntKind.i64.max = 9223372036854775807 := by decide
  exact ⟨(l, n), rfl, by omega, by omega⟩
section
variable {H : Type} {enc : TypeId × Value → H} {W : World} {sp : Nat → Bool} {held : Bool} {r : Reach} {base : Nat}

theorem open_vec {fuel : Nat} {v : Value} {x : DataW H × List MemPlace} (hv : Cell.okWide Tryd.prog W r base 23 v) (hd : DataW.trod enc Tryd.prog W 0 sp held fuel 23 [v] = some x) : ∃ es : List Ent, VecCap W v es ∧ ∀ e ∈ es, inW e.2 :=
  open_slice (P := Tryd.prog) (t := 23) (e := 51) (ds := [.string, .int .i64, .int .u64]) (f := cellsE) (p := fun e => inW e.2) (by kernel_rfl) (by kernel_rfl) (by kernel_rfl) cellsE_len fit_ent hv hd
theorem slice_cell {P : Program} {t e : TypeId} {v : Value} (hu : P.underlying t = some (.slice e)) (h : Cell.okWide P W r base t v) : ∃ a n c, v = .slice a n c := by
  unfold Cell.okWide at h
  rw [hu] at h
  cases v <;> first | exact ⟨_, _, _, rfl⟩ | (simp [Cell.ok, hu] at h)
theorem open_res {v : Value} {d : DataW H} {ps : List MemPlace} (hv : Value.okWide Tryd.prog W r base 39 v) (hd : DataW.Trod enc Tryd.prog W 0 sp held 39 v d ps) : ∃ rs : List Ent, ResAt W v rs ∧ ∀ r ∈ rs, -9223372036854775808 ≤ r.2 ∧ r.2 ≤ 9223372036854775807 := by
  have hu : Tryd.prog.underlying 39 = some (.slice 41) := by kernel_rfl
  have hc : Cell.okWide Tryd.prog W r base 39 v := by unfold Value.okWide at hv; rw [hu] at hv; exact hv
  obtain ⟨a, n, c, rfl⟩ := slice_cell hu hc
  obtain ⟨fuel, hd⟩ := hd
  obtain ⟨us, h1, h2⟩ := open_slice (P := Tryd.prog) (t := 39) (e := 41) (ds := [.string, .int .i64]) (f := cellsR) (p := fun r => -9223372036854775808 ≤ r.2 ∧ r.2 ≤ 9223372036854775807) hu (by kernel_rfl) (by kernel_rfl) cellsR_len fit_res hc hd
  exact ⟨us, h1.1, h2⟩
theorem open_vec2 {v : Value} {d : DataW H} {ps : List MemPlace} (hv : Value.okWide Tryd.prog W r base 24 v) (hd : DataW.Trod enc Tryd.prog W 0 sp held 24 v d ps) :
    ∃ va vb es fs, v = .agg #[va, vb] ∧ VecCap W va es ∧ VecCap W vb fs ∧ (∀ e ∈ es, inW e.2) ∧ ∀ e ∈ fs, inW e.2 := by
  obtain ⟨cs, rfl, hl, hall⟩ := open_cells (P := Tryd.prog) (t := 24) (ts := [23, 23]) (by kernel_rfl) (by kernel_rfl) (by kernel_rfl) (by kernel_rfl) hv
  obtain ⟨va, vb, rfl⟩ := len2 hl
  obtain ⟨fuel, hd⟩ := hd
  have hu : Tryd.prog.underlying 24 = some (.array 2 23) := by kernel_rfl
  have hn : Tryd.prog.cellsOf 23 = 1 := by kernel_rfl
  obtain ⟨f1, x1, hd1⟩ := open_arr_cell (m := 2) hu hn (cs := [va, vb]) hd (i := 0) (v := va) (by decide) rfl rfl
  obtain ⟨f2, x2, hd2⟩ := open_arr_cell (m := 2) hu hn (cs := [va, vb]) hd (i := 1) (v := vb) (by decide) rfl rfl
  obtain ⟨es, h1, h2⟩ := open_vec (hall 0 va _ rfl rfl) hd1
  obtain ⟨fs, h3, h4⟩ := open_vec (hall 1 vb _ rfl rfl) hd2
  exact ⟨va, vb, es, fs, rfl, h1, h3, h2, h4⟩
theorem open_vec3 {v : Value} {d : DataW H} {ps : List MemPlace} (hv : Value.okWide Tryd.prog W r base 47 v) (hd : DataW.Trod enc Tryd.prog W 0 sp held 47 v d ps) :
    ∃ va vb vc es fs gs, v = .agg #[va, vb, vc] ∧ VecCap W va es ∧ VecCap W vb fs ∧ VecCap W vc gs ∧ (∀ e ∈ es, inW e.2) ∧ (∀ e ∈ fs, inW e.2) ∧ ∀ e ∈ gs, inW e.2 := by
  obtain ⟨cs, rfl, hl, hall⟩ := open_cells (P := Tryd.prog) (t := 47) (ts := [23, 23, 23]) (by kernel_rfl) (by kernel_rfl) (by kernel_rfl) (by kernel_rfl) hv
  obtain ⟨va, vb, vc, rfl⟩ := len3 hl
  obtain ⟨fuel, hd⟩ := hd
  have hu : Tryd.prog.underlying 47 = some (.array 3 23) := by kernel_rfl
  have hn : Tryd.prog.cellsOf 23 = 1 := by kernel_rfl
  obtain ⟨f1, x1, hd1⟩ := open_arr_cell (m := 3) hu hn (cs := [va, vb, vc]) hd (i := 0) (v := va) (by decide) rfl rfl
  obtain ⟨f2, x2, hd2⟩ := open_arr_cell (m := 3) hu hn (cs := [va, vb, vc]) hd (i := 1) (v := vb) (by decide) rfl rfl
  obtain ⟨f3, x3, hd3⟩ := open_arr_cell (m := 3) hu hn (cs := [va, vb, vc]) hd (i := 2) (v := vc) (by decide) rfl rfl
  obtain ⟨es, h1, h2⟩ := open_vec (hall 0 va _ rfl rfl) hd1
  obtain ⟨fs, h3, h4⟩ := open_vec (hall 1 vb _ rfl rfl) hd2
  obtain ⟨gs, h5, h6⟩ := open_vec (hall 2 vc _ rfl rfl) hd3
  exact ⟨va, vb, vc, es, fs, gs, rfl, h1, h3, h5, h2, h4, h6⟩
end
end Vec
end Go.Proofs.YteclgkemggmabaaDoor
