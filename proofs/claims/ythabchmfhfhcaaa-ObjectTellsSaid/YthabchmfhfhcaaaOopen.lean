/- Objects that come in: what they are, from a row's condition on its arguments; conditions: none. -/
import Derived.Test.YthabchmfhfhcaaaVopn
import Derived.Test.YthabchmfhfhcaaaOlawt
namespace Go.Proofs.Ythabchmfhfhcaaa
namespace Ojt
open Go Go.RowKit Sx Wid Vec
set_option maxRecDepth 100000

theorem len8 {α : Type} : ∀ {l : List α}, l.length = 8 → ∃ a b c d e f g h, l = [a, b, c, d, e, f, g, h]
  | [a, b, c, d, e, f, g, h], _ => ⟨a, b, c, d, e, f, g, h, rfl⟩
section
variable {H : Type} {enc : TypeId × Value → H} {W : World} {sp : Nat → Bool} {held : Bool} {r : Reach} {base : Nat}

theorem open_res1 {fuel : Nat} {v : Value} {x : DataW H × List MemPlace} (hc : Cell.okWide Try.prog W r base 24 v) (hd : DataW.trod enc Try.prog W 0 sp held fuel 24 [v] = some x) : ∃ rs : List Ent, ResAt W v rs ∧ numR rs := by
  have hu : Try.prog.underlying 24 = some (.slice 43) := by kernel_rfl
  obtain ⟨a, n, c, rfl⟩ := slice_cell hu hc
  obtain ⟨us, h1, h2⟩ := open_slice (P := Try.prog) (t := 24) (e := 43) (ds := [.string, .int .i64]) (f := cellsR) (p := fun r => -9223372036854775808 ≤ r.2 ∧ r.2 ≤ 9223372036854775807) hu (by kernel_rfl) (by kernel_rfl) cellsR_len fit_res hc hd
  exact ⟨us, h1.1, h2⟩
theorem open_obj {v : Value} {d : DataW H} {ps : List MemPlace} (hv : Value.okWide Try.prog W r base 26 v) (hd : DataW.Trod enc Try.prog W 0 sp held 26 v d ps) :
    ∃ o u, v = OV o u ∧ ResAt W u o.rs ∧ numR o.rs := by
  obtain ⟨cs, rfl, hl, hall⟩ := open_cells (P := Try.prog) (t := 26) (ts := [9, 9, 9, 2, 9, 4, 4, 24]) (by kernel_rfl) (by kernel_rfl) (by kernel_rfl) (by kernel_rfl) hv
  obtain ⟨v0, v1, v2, v3, v4, v5, v6, v7, rfl⟩ := len8 hl
  obtain ⟨fuel, hd⟩ := hd
  have hs : Try.prog.underlying 9 = some .string := by kernel_rfl
  have hb : Try.prog.underlying 4 = some .bool := by kernel_rfl
  obtain ⟨k, rfl⟩ := cell_string hs (hall 0 v0 _ rfl rfl)
  obtain ⟨s, rfl⟩ := cell_string hs (hall 1 v1 _ rfl rfl)
  obtain ⟨n, rfl⟩ := cell_string hs (hall 2 v2 _ rfl rfl)
  obtain ⟨ver, rfl, -, -⟩ := cell_int (k := .i64) (by kernel_rfl) (hall 3 v3 _ rfl rfl)
  obtain ⟨c, rfl⟩ := cell_string hs (hall 4 v4 _ rfl rfl)
  obtain ⟨tm, rfl⟩ := cell_bool hb (hall 5 v5 _ rfl rfl)
  obtain ⟨bs, rfl⟩ := cell_bool hb (hall 6 v6 _ rfl rfl)
  obtain ⟨f1, x1, hd1⟩ := open_struct_cell (P := Try.prog) (t := 26) (i := 5) (e := 24) (o := 7) (v := v7) (cs := [S k, S s, S n, I ver, S c, .bool tm, .bool bs, v7]) hd (by kernel_rfl) (by kernel_rfl) rfl
  obtain ⟨rs, h1, h2⟩ := open_res1 (hall 7 v7 _ rfl rfl) hd1
  exact ⟨⟨k, s, n, ver, c, tm, bs, rs⟩, v7, rfl, h1, h2⟩
end
end Ojt
end Go.Proofs.Ythabchmfhfhcaaa
