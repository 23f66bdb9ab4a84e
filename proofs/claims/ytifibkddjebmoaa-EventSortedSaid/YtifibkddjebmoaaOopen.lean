/- Objects that come in: what they are, from a row's condition on its arguments; conditions: none. -/
import Derived.Test.YtifibkddjebmoaaOval
import Derived.Test.YtifibkddjebmoaaSxj
namespace Go.Proofs.Ytifibkddjebmoaa
namespace Ojt
open Go Go.RowKit Sx Vec
set_option maxRecDepth 100000

theorem len8 {α : Type} : ∀ {l : List α}, l.length = 8 → ∃ a b c d e f g h, l = [a, b, c, d, e, f, g, h]
  | [a, b, c, d, e, f, g, h], _ => ⟨a, b, c, d, e, f, g, h, rfl⟩
section
variable {H : Type} {enc : TypeId × Value → H} {W : World} {sp : Nat → Bool} {held : Bool} {r : Reach} {base : Nat}

theorem open_res1 {fuel : Nat} {v : Value} {x : DataW H × List MemPlace} (hd : DataW.trod enc Try.prog W 0 sp held fuel 25 [v] = some x) : ∃ rs : List Ent, ResAt W v rs ∧ numR rs := by
  obtain ⟨us, h1, h2⟩ := open_slice_g (P := Try.prog) (t := 25) (e := 56) (sz := 2) (f := cellsR) (Q := fun r => -9223372036854775808 ≤ r.2 ∧ r.2 ≤ 9223372036854775807) (by kernel_rfl) (by kernel_rfl) (by decide) cellsR_len (fun fuel c y hc => by
    have hfit := flat_fit 8 fuel 56 [.string, .int .i64] (by kernel_rfl) c y (by kernel_rfl) hc
    obtain ⟨a, b, rfl⟩ := len2 hfit.len
    obtain ⟨⟨l, rfl⟩, ⟨n, rfl, h1, h2⟩, -⟩ := hfit
    have e1 : IntKind.i64.min = -9223372036854775808 := by decide
    have e2 : IntKind.i64.max = 9223372036854775807 := by decide
    exact ⟨(l, n), rfl, by omega, by omega⟩) hd
  exact ⟨us, h1.1, h2⟩
theorem open_obj {v : Value} {d : DataW H} {ps : List MemPlace} (hv : Value.okWide Try.prog W r base 27 v) (hd : DataW.Trod enc Try.prog W 0 sp held 27 v d ps) :
    ∃ o u, v = OV o u ∧ ResAt W u o.rs ∧ numR o.rs := by
  obtain ⟨cs, rfl, hl, hall⟩ := open_cells (P := Try.prog) (t := 27) (ts := [9, 9, 9, 2, 9, 4, 4, 25]) (by kernel_rfl) (by kernel_rfl) (by kernel_rfl) (by kernel_rfl) hv
  obtain ⟨v0, v1, v2, v3, v4, v5, v6, v7, rfl⟩ := len8 hl
  obtain ⟨fuel, hd⟩ := hd
  have hs : Try.prog.underlying 9 = some .string := by kernel_rfl
  have hb : Try.prog.underlying 4 = some .bool := by kernel_rfl
  obtain ⟨k, rfl⟩ := cell_string hs (hall 0 v0 _ rfl rfl)
  obtain ⟨s, rfl⟩ := cell_string hs (hall 1 v1 _ rfl rfl)
  obtain ⟨n, rfl⟩ := cell_string hs (hall 2 v2 _ rfl rfl)
  obtain ⟨ver, rfl, -, -⟩ := cell_int (k := .i64) (by kernel_rfl) (hall 3 v3 _ rfl rfl)
  obtain ⟨c, rfl⟩ := cell_string hs (hall 4 v4 _ rfl rfl)
  obtain ⟨tm, rfl⟩ := cell_bool hb (hall 5 v5 _ rfl rfl)
  obtain ⟨bs, rfl⟩ := cell_bool hb (hall 6 v6 _ rfl rfl)
  obtain ⟨f1, x1, hd1⟩ := open_struct_cell (P := Try.prog) (t := 27) (i := 5) (e := 25) (o := 7) (v := v7) (cs := [S k, S s, S n, I ver, S c, .bool tm, .bool bs, v7]) hd (by kernel_rfl) (by kernel_rfl) rfl
  obtain ⟨rs, h1, h2⟩ := open_res1 hd1
  exact ⟨⟨k, s, n, ver, c, tm, bs, rs⟩, v7, rfl, h1, h2⟩
end
end Ojt
end Go.Proofs.Ytifibkddjebmoaa
