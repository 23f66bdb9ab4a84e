/- Objects' lists and events that come in: what they are, from a row's condition on its arguments; conditions: none. -/
import Derived.Test.YtifibkddjebmoaaEvm
import Derived.Test.YtifibkddjebmoaaOopen
namespace Go.Proofs.Ytifibkddjebmoaa
namespace Evt
open Go Go.RowKit Sx Vec Ojt
set_option maxRecDepth 100000

theorem len11 {α : Type} : ∀ {l : List α}, l.length = 11 → ∃ a b c d e f g h i j k, l = [a, b, c, d, e, f, g, h, i, j, k]
  | [a, b, c, d, e, f, g, h, i, j, k], _ => ⟨a, b, c, d, e, f, g, h, i, j, k, rfl⟩
section
variable {H : Type} {enc : TypeId × Value → H} {W : World} {sp : Nat → Bool} {held : Bool} {r : Reach} {base : Nat}

def goodO (o : Ob) : Prop := numR o.rs ∧ o.ver ≤ 9223372036854775807
theorem open_ob {fuel : Nat} {c : List Value} {x : DataW H × List MemPlace} (hd : DataW.trod enc Try.prog W 0 sp held fuel 27 c = some x) : ∃ p : PO, c = cellsO p ∧ ResAt W p.1 p.2.rs ∧ goodO p.2 := by
  have hl := struct_len (P := Try.prog) (t := 27) (i := 1) (e := 2) (o := 3) hd (by kernel_rfl)
  obtain ⟨v0, v1, v2, v3, v4, v5, v6, v7, rfl⟩ := len8 (hl.trans (by kernel_rfl))
  obtain ⟨f0, y0, h0⟩ := open_struct_part (P := Try.prog) (t := 27) (i := 0) (e := 24) (o := 0) hd (by kernel_rfl)
  obtain ⟨f1, y1, h1⟩ := open_struct_part (P := Try.prog) (t := 27) (i := 1) (e := 2) (o := 3) hd (by kernel_rfl)
  obtain ⟨f2, y2, h2⟩ := open_struct_part (P := Try.prog) (t := 27) (i := 2) (e := 9) (o := 4) hd (by kernel_rfl)
  obtain ⟨f3, y3, h3⟩ := open_struct_part (P := Try.prog) (t := 27) (i := 3) (e := 4) (o := 5) hd (by kernel_rfl)
  obtain ⟨f4, y4, h4⟩ := open_struct_part (P := Try.prog) (t := 27) (i := 4) (e := 4) (o := 6) hd (by kernel_rfl)
  obtain ⟨f5, y5, h5⟩ := open_struct_part (P := Try.prog) (t := 27) (i := 5) (e := 25) (o := 7) hd (by kernel_rfl)
  rw [show Try.prog.cellsOf 24 = 3 by kernel_rfl] at h0
  rw [show Try.prog.cellsOf 2 = 1 by kernel_rfl] at h1
  rw [show Try.prog.cellsOf 9 = 1 by kernel_rfl] at h2
  rw [show Try.prog.cellsOf 4 = 1 by kernel_rfl] at h3 h4
  rw [show Try.prog.cellsOf 25 = 1 by kernel_rfl] at h5
  obtain ⟨⟨k, e0⟩, ⟨s, e1⟩, ⟨n, e2⟩, -⟩ := flat_fit 8 f0 24 [.string, .string, .string] (by kernel_rfl) _ y0 (by kernel_rfl) h0
  obtain ⟨⟨ver, e3, g1, g2⟩, -⟩ := flat_fit 8 f1 2 [.int .i64] (by kernel_rfl) _ y1 (by kernel_rfl) h1
  obtain ⟨⟨c, e4⟩, -⟩ := flat_fit 8 f2 9 [.string] (by kernel_rfl) _ y2 (by kernel_rfl) h2
  obtain ⟨⟨tm, e5⟩, -⟩ := flat_fit 8 f3 4 [.bool] (by kernel_rfl) _ y3 (by kernel_rfl) h3
  obtain ⟨⟨bs, e6⟩, -⟩ := flat_fit 8 f4 4 [.bool] (by kernel_rfl) _ y4 (by kernel_rfl) h4
  obtain ⟨rs, hr, hn⟩ := open_res1 h5
  have em : IntKind.i64.max = 9223372036854775807 := by decide
  subst e0 e1 e2 e3 e4 e5 e6
  exact ⟨(v7, ⟨k, s, n, ver, c, tm, bs, rs⟩), rfl, hr, hn, by show ver ≤ _; omega⟩
theorem open_objs {fuel : Nat} {v : Value} {x : DataW H × List MemPlace} (hd : DataW.trod enc Try.prog W 0 sp held fuel 28 [v] = some x) : ∃ ps, ObjsAt W v ps ∧ ∀ p ∈ ps, goodO p.2 := by
  obtain ⟨us, h1, h2⟩ := open_slice_g (P := Try.prog) (t := 28) (e := 27) (sz := 8) (f := cellsO) (Q := fun p => ResAt W p.1 p.2.rs ∧ goodO p.2) (by kernel_rfl) (by kernel_rfl) (by decide) cellsO_len (fun fuel c y hc => open_ob hc) hd
  exact ⟨us, ⟨h1.1, fun p hp => (h2 p hp).1⟩, fun p hp => (h2 p hp).2⟩
theorem open_objs1 {v : Value} {d : DataW H} {ps : List MemPlace} (hv : Value.okWide Try.prog W r base 28 v) (hd : DataW.Trod enc Try.prog W 0 sp held 28 v d ps) : ∃ ps, ObjsAt W v ps ∧ ∀ p ∈ ps, goodO p.2 := by
  have hu : Try.prog.underlying 28 = some (.slice 27) := by kernel_rfl
  have hc : Cell.okWide Try.prog W r base 28 v := by unfold Value.okWide at hv; rw [hu] at hv; exact hv
  obtain ⟨a, n, c, rfl⟩ := slice_cell hu hc
  obtain ⟨fuel, hd⟩ := hd
  exact open_objs hd
theorem open_ev {v : Value} {d : DataW H} {ps : List MemPlace} (hv : Value.okWide Try.prog W r base 30 v) (hd : DataW.Trod enc Try.prog W 0 sp held 30 v d ps) :
    ∃ kind p ver u ps, v = EV kind p ver u ∧ ResAt W p.1 p.2.rs ∧ ObjsAt W u ps ∧ goodO p.2 ∧ ∀ p ∈ ps, goodO p.2 := by
  obtain ⟨cs, rfl, hl, hall⟩ := open_cells (P := Try.prog) (t := 30) (ts := [22, 9, 9, 9, 2, 9, 4, 4, 25, 2, 28]) (by kernel_rfl) (by kernel_rfl) (by kernel_rfl) (by kernel_rfl) hv
  obtain ⟨v0, v1, v2, v3, v4, v5, v6, v7, v8, v9, v10, rfl⟩ := len11 hl
  obtain ⟨fuel, hd⟩ := hd
  obtain ⟨kind, rfl, -, -⟩ := cell_int (k := .i64) (by kernel_rfl) (hall 0 v0 _ rfl rfl)
  obtain ⟨ver, rfl, -, -⟩ := cell_int (k := .i64) (by kernel_rfl) (hall 9 v9 _ rfl rfl)
  obtain ⟨f1, y1, h1⟩ := open_struct_part (P := Try.prog) (t := 30) (i := 1) (e := 27) (o := 1) hd (by kernel_rfl)
  obtain ⟨f3, y3, h3⟩ := open_struct_part (P := Try.prog) (t := 30) (i := 3) (e := 28) (o := 10) hd (by kernel_rfl)
  rw [show Try.prog.cellsOf 27 = 8 by kernel_rfl] at h1
  rw [show Try.prog.cellsOf 28 = 1 by kernel_rfl] at h3
  obtain ⟨⟨x, k, s, n, over, c, tm, bs, rs⟩, hc, hr, hg⟩ := open_ob h1
  obtain ⟨ps, hp, hgs⟩ := open_objs h3
  have hc2 : [v1, v2, v3, v4, v5, v6, v7, v8] = [S k, S s, S n, I over, S c, .bool tm, .bool bs, x] := hc
  simp only [List.cons.injEq] at hc2
  obtain ⟨rfl, rfl, rfl, rfl, rfl, rfl, rfl, rfl, -⟩ := hc2
  exact ⟨kind, (_, ⟨k, s, n, over, c, tm, bs, rs⟩), ver, v10, ps, rfl, hr, hp, hg, hgs⟩
end
end Evt
end Go.Proofs.Ytifibkddjebmoaa
