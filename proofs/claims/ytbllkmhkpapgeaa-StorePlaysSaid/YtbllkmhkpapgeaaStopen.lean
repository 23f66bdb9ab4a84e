/- Objects that come in: what they are, from a row's condition on its arguments; conditions: none. -/
import Derived.Test.YtbllkmhkpapgeaaOobj
import Derived.Test.YtbllkmhkpapgeaaSxk
import Derived.Test.YtbllkmhkpapgeaaEvn
import Derived.Test.YtbllkmhkpapgeaaStf
/- Oopen: Objects that come in: what they are, from a row's condition on its arguments; conditions: none. -/
namespace Go.Proofs.Ytbllkmhkpapgeaa
namespace Ojt
open Go Go.RowKit Sx Vec
set_option maxRecDepth 100000

theorem len8 {α : Type} : ∀ {l : List α}, l.length = 8 → ∃ a b c d e f g h, l = [a, b, c, d, e, f, g, h]
  | [a, b, c, d, e, f, g, h], _ => ⟨a, b, c, d, e, f, g, h, rfl⟩
section
variable {H : Type} {enc : TypeId × Value → H} {W : World} {sp : Nat → Bool} {held : Bool} {r : Reach} {base : Nat}

theorem open_res1 {fuel : Nat} {v : Value} {x : DataW H × List MemPlace} (hd : DataW.trod enc Try.prog W 0 sp held fuel 36 [v] = some x) : ∃ rs : List Ent, ResAt W v rs ∧ numR rs := by
  obtain ⟨us, h1, h2⟩ := open_slice_g (P := Try.prog) (t := 36) (e := 83) (sz := 2) (f := cellsR) (Q := fun r => -9223372036854775808 ≤ r.2 ∧ r.2 ≤ 9223372036854775807) (by kernel_rfl) (by kernel_rfl) (by decide) cellsR_len (fun fuel c y hc => by
    have hfit := flat_fit 8 fuel 83 [.string, .int .i64] (by kernel_rfl) c y (by kernel_rfl) hc
    obtain ⟨a, b, rfl⟩ := len2 hfit.len
    obtain ⟨⟨l, rfl⟩, ⟨n, rfl, h1, h2⟩, -⟩ := hfit
    have e1 : IntKind.i64.min = -9223372036854775808 := by decide
    have e2 : IntKind.i64.max = 9223372036854775807 := by decide
    exact ⟨(l, n), rfl, by omega, by omega⟩) hd
  exact ⟨us, h1.1, h2⟩
theorem open_obj {v : Value} {d : DataW H} {ps : List MemPlace} (hv : Value.okWide Try.prog W r base 38 v) (hd : DataW.Trod enc Try.prog W 0 sp held 38 v d ps) :
    ∃ o u, v = OV o u ∧ ResAt W u o.rs ∧ numR o.rs := by
  obtain ⟨cs, rfl, hl, hall⟩ := open_cells (P := Try.prog) (t := 38) (ts := [9, 9, 9, 2, 9, 4, 4, 36]) (by kernel_rfl) (by kernel_rfl) (by kernel_rfl) (by kernel_rfl) hv
  obtain ⟨v0, v1, v2, v3, v4, v5, v6, v7, rfl⟩ := len8 hl
  obtain ⟨fuel, hd⟩ := hd
  have hs : Try.prog.underlying 9 = some .string := by kernel_rfl
  have hb : Try.prog.underlying 4 = some .bool := by kernel_rfl
  obtain ⟨k, rfl⟩ := cell_string hs (hall 0 v0 _ rfl rfl)
  obtain ⟨s, rfl⟩ := cell_string hs (hall 1 v1 _ rfl rfl)
  obtain ⟨n, rfl⟩ := cell_string hs (hall 2 v2 _ rfl rfl)
  obtain ⟨ver, rfl, -, -⟩ := cell_int (k := .i64) (by kernel_rfl) (hall 3 v3 _ rfl rfl)
  obtain ⟨c, rfl⟩ := cell_string hs (hall 4 v4 _ rfl rfl)
  obtain ⟨tm, rfl⟩ := cell_bool hb (hall 5 v5 _ rfl rfl)
  obtain ⟨bs, rfl⟩ := cell_bool hb (hall 6 v6 _ rfl rfl)
  obtain ⟨f1, x1, hd1⟩ := open_struct_cell (P := Try.prog) (t := 38) (i := 5) (e := 36) (o := 7) (v := v7) (cs := [S k, S s, S n, I ver, S c, .bool tm, .bool bs, v7]) hd (by kernel_rfl) (by kernel_rfl) rfl
  obtain ⟨rs, h1, h2⟩ := open_res1 hd1
  exact ⟨⟨k, s, n, ver, c, tm, bs, rs⟩, v7, rfl, h1, h2⟩
end
end Ojt
end Go.Proofs.Ytbllkmhkpapgeaa
/- Eopen: Objects' lists and events that come in: what they are, from a row's condition on its arguments; conditions: none. -/
namespace Go.Proofs.Ytbllkmhkpapgeaa
namespace Evt
open Go Go.RowKit Sx Vec Ojt
set_option maxRecDepth 100000

theorem len11 {α : Type} : ∀ {l : List α}, l.length = 11 → ∃ a b c d e f g h i j k, l = [a, b, c, d, e, f, g, h, i, j, k]
  | [a, b, c, d, e, f, g, h, i, j, k], _ => ⟨a, b, c, d, e, f, g, h, i, j, k, rfl⟩
section
variable {H : Type} {enc : TypeId × Value → H} {W : World} {sp : Nat → Bool} {held : Bool} {r : Reach} {base : Nat}

def goodO (o : Ob) : Prop := numR o.rs ∧ o.ver ≤ 9223372036854775807
theorem open_ob {fuel : Nat} {c : List Value} {x : DataW H × List MemPlace} (hd : DataW.trod enc Try.prog W 0 sp held fuel 38 c = some x) : ∃ p : PO, c = cellsO p ∧ ResAt W p.1 p.2.rs ∧ goodO p.2 := by
  have hl := struct_len (P := Try.prog) (t := 38) (i := 1) (e := 2) (o := 3) hd (by kernel_rfl)
  obtain ⟨v0, v1, v2, v3, v4, v5, v6, v7, rfl⟩ := len8 (hl.trans (by kernel_rfl))
  obtain ⟨f0, y0, h0⟩ := open_struct_part (P := Try.prog) (t := 38) (i := 0) (e := 35) (o := 0) hd (by kernel_rfl)
  obtain ⟨f1, y1, h1⟩ := open_struct_part (P := Try.prog) (t := 38) (i := 1) (e := 2) (o := 3) hd (by kernel_rfl)
  obtain ⟨f2, y2, h2⟩ := open_struct_part (P := Try.prog) (t := 38) (i := 2) (e := 9) (o := 4) hd (by kernel_rfl)
  obtain ⟨f3, y3, h3⟩ := open_struct_part (P := Try.prog) (t := 38) (i := 3) (e := 4) (o := 5) hd (by kernel_rfl)
  obtain ⟨f4, y4, h4⟩ := open_struct_part (P := Try.prog) (t := 38) (i := 4) (e := 4) (o := 6) hd (by kernel_rfl)
  obtain ⟨f5, y5, h5⟩ := open_struct_part (P := Try.prog) (t := 38) (i := 5) (e := 36) (o := 7) hd (by kernel_rfl)
  rw [show Try.prog.cellsOf 35 = 3 by kernel_rfl] at h0
  rw [show Try.prog.cellsOf 2 = 1 by kernel_rfl] at h1
  rw [show Try.prog.cellsOf 9 = 1 by kernel_rfl] at h2
  rw [show Try.prog.cellsOf 4 = 1 by kernel_rfl] at h3 h4
  rw [show Try.prog.cellsOf 36 = 1 by kernel_rfl] at h5
  obtain ⟨⟨k, e0⟩, ⟨s, e1⟩, ⟨n, e2⟩, -⟩ := flat_fit 8 f0 35 [.string, .string, .string] (by kernel_rfl) _ y0 (by kernel_rfl) h0
  obtain ⟨⟨ver, e3, g1, g2⟩, -⟩ := flat_fit 8 f1 2 [.int .i64] (by kernel_rfl) _ y1 (by kernel_rfl) h1
  obtain ⟨⟨c, e4⟩, -⟩ := flat_fit 8 f2 9 [.string] (by kernel_rfl) _ y2 (by kernel_rfl) h2
  obtain ⟨⟨tm, e5⟩, -⟩ := flat_fit 8 f3 4 [.bool] (by kernel_rfl) _ y3 (by kernel_rfl) h3
  obtain ⟨⟨bs, e6⟩, -⟩ := flat_fit 8 f4 4 [.bool] (by kernel_rfl) _ y4 (by kernel_rfl) h4
  obtain ⟨rs, hr, hn⟩ := open_res1 h5
  have em : IntKind.i64.max = 9223372036854775807 := by decide
  subst e0 e1 e2 e3 e4 e5 e6
  exact ⟨(v7, ⟨k, s, n, ver, c, tm, bs, rs⟩), rfl, hr, hn, by show ver ≤ _; omega⟩
theorem open_objs {fuel : Nat} {v : Value} {x : DataW H × List MemPlace} (hd : DataW.trod enc Try.prog W 0 sp held fuel 48 [v] = some x) : ∃ ps, ObjsAt W v ps ∧ ∀ p ∈ ps, goodO p.2 := by
  obtain ⟨us, h1, h2⟩ := open_slice_g (P := Try.prog) (t := 48) (e := 38) (sz := 8) (f := cellsO) (Q := fun p => ResAt W p.1 p.2.rs ∧ goodO p.2) (by kernel_rfl) (by kernel_rfl) (by decide) cellsO_len (fun fuel c y hc => open_ob hc) hd
  exact ⟨us, ⟨h1.1, fun p hp => (h2 p hp).1⟩, fun p hp => (h2 p hp).2⟩
theorem open_objs1 {v : Value} {d : DataW H} {ps : List MemPlace} (hv : Value.okWide Try.prog W r base 48 v) (hd : DataW.Trod enc Try.prog W 0 sp held 48 v d ps) : ∃ ps, ObjsAt W v ps ∧ ∀ p ∈ ps, goodO p.2 := by
  have hu : Try.prog.underlying 48 = some (.slice 38) := by kernel_rfl
  have hc : Cell.okWide Try.prog W r base 48 v := by unfold Value.okWide at hv; rw [hu] at hv; exact hv
  obtain ⟨a, n, c, rfl⟩ := slice_cell hu hc
  obtain ⟨fuel, hd⟩ := hd
  exact open_objs hd
theorem open_ev {v : Value} {d : DataW H} {ps : List MemPlace} (hv : Value.okWide Try.prog W r base 50 v) (hd : DataW.Trod enc Try.prog W 0 sp held 50 v d ps) :
    ∃ kind p ver u ps, v = EV kind p ver u ∧ ResAt W p.1 p.2.rs ∧ ObjsAt W u ps ∧ goodO p.2 ∧ ∀ p ∈ ps, goodO p.2 := by
  obtain ⟨cs, rfl, hl, hall⟩ := open_cells (P := Try.prog) (t := 50) (ts := [47, 9, 9, 9, 2, 9, 4, 4, 36, 2, 48]) (by kernel_rfl) (by kernel_rfl) (by kernel_rfl) (by kernel_rfl) hv
  obtain ⟨v0, v1, v2, v3, v4, v5, v6, v7, v8, v9, v10, rfl⟩ := len11 hl
  obtain ⟨fuel, hd⟩ := hd
  obtain ⟨kind, rfl, -, -⟩ := cell_int (k := .i64) (by kernel_rfl) (hall 0 v0 _ rfl rfl)
  obtain ⟨ver, rfl, -, -⟩ := cell_int (k := .i64) (by kernel_rfl) (hall 9 v9 _ rfl rfl)
  obtain ⟨f1, y1, h1⟩ := open_struct_part (P := Try.prog) (t := 50) (i := 1) (e := 38) (o := 1) hd (by kernel_rfl)
  obtain ⟨f3, y3, h3⟩ := open_struct_part (P := Try.prog) (t := 50) (i := 3) (e := 48) (o := 10) hd (by kernel_rfl)
  rw [show Try.prog.cellsOf 38 = 8 by kernel_rfl] at h1
  rw [show Try.prog.cellsOf 48 = 1 by kernel_rfl] at h3
  obtain ⟨⟨x, k, s, n, over, c, tm, bs, rs⟩, hc, hr, hg⟩ := open_ob h1
  obtain ⟨ps, hp, hgs⟩ := open_objs h3
  have hc2 : [v1, v2, v3, v4, v5, v6, v7, v8] = [S k, S s, S n, I over, S c, .bool tm, .bool bs, x] := hc
  simp only [List.cons.injEq] at hc2
  obtain ⟨rfl, rfl, rfl, rfl, rfl, rfl, rfl, rfl, -⟩ := hc2
  exact ⟨kind, (_, ⟨k, s, n, over, c, tm, bs, rs⟩), ver, v10, ps, rfl, hr, hp, hg, hgs⟩
end
end Evt
end Go.Proofs.Ytbllkmhkpapgeaa
/- Stopen: Lists of writes that come in: what they are, from a row's condition on its arguments; conditions: none. -/
namespace Go.Proofs.Ytbllkmhkpapgeaa
namespace Stm
open Go Go.RowKit Sx Lab Vec Ojt Evt Chm
set_option maxRecDepth 100000
theorem len9 {α : Type} : ∀ {l : List α}, l.length = 9 → ∃ a b c d e f g h i, l = [a, b, c, d, e, f, g, h, i]
  | [a, b, c, d, e, f, g, h, i], _ => ⟨a, b, c, d, e, f, g, h, i, rfl⟩
section
variable {H : Type} {enc : TypeId × Value → H} {W : World} {sp : Nat → Bool} {held : Bool} {r : Reach} {base : Nat}

theorem open_wr {fuel : Nat} {c : List Value} {x : DataW H × List MemPlace} (hd : DataW.trod enc Try.prog W 0 sp held fuel 40 c = some x) : ∃ e : PW, c = cellsW e ∧ ResAt W e.2.1 e.2.2.rs ∧ numR e.2.2.rs := by
  have hl := struct_len (P := Try.prog) (t := 40) (i := 1) (e := 38) (o := 1) hd (by kernel_rfl)
  obtain ⟨v0, v1, v2, v3, v4, v5, v6, v7, v8, rfl⟩ := len9 (hl.trans (by kernel_rfl))
  obtain ⟨f0, y0, h0⟩ := open_struct_part (P := Try.prog) (t := 40) (i := 0) (e := 4) (o := 0) hd (by kernel_rfl)
  obtain ⟨f1, y1, h1⟩ := open_struct_part (P := Try.prog) (t := 40) (i := 1) (e := 38) (o := 1) hd (by kernel_rfl)
  rw [show Try.prog.cellsOf 4 = 1 by kernel_rfl] at h0
  rw [show Try.prog.cellsOf 38 = 8 by kernel_rfl] at h1
  obtain ⟨⟨gone, e0⟩, -⟩ := flat_fit 8 f0 4 [.bool] (by kernel_rfl) _ y0 (by kernel_rfl) h0
  obtain ⟨⟨x, k, s, n, over, c, tm, bs, rs⟩, hc, hr, hg⟩ := open_ob h1
  have hc2 : [v1, v2, v3, v4, v5, v6, v7, v8] = [S k, S s, S n, I over, S c, .bool tm, .bool bs, x] := hc
  simp only [List.cons.injEq] at hc2
  obtain ⟨rfl, rfl, rfl, rfl, rfl, rfl, rfl, rfl, -⟩ := hc2
  subst e0
  exact ⟨(gone, (_, ⟨k, s, n, over, c, tm, bs, rs⟩)), rfl, hr, hg.1⟩
theorem open_writes {v : Value} {d : DataW H} {ps : List MemPlace} (hv : Value.okWide Try.prog W r base 22 v) (hd : DataW.Trod enc Try.prog W 0 sp held 22 v d ps) : ∃ ws, WrAt W v ws ∧ ∀ e ∈ ws, numR e.2.2.rs := by
  have hu : Try.prog.underlying 22 = some (.slice 40) := by kernel_rfl
  have hc : Cell.okWide Try.prog W r base 22 v := by unfold Value.okWide at hv; rw [hu] at hv; exact hv
  obtain ⟨a, n, c, rfl⟩ := slice_cell hu hc
  obtain ⟨fuel, hd⟩ := hd
  obtain ⟨us, h1, h2⟩ := open_slice_g (P := Try.prog) (t := 22) (e := 40) (sz := 9) (f := cellsW) (Q := fun e => ResAt W e.2.1 e.2.2.rs ∧ numR e.2.2.rs) (by kernel_rfl) (by kernel_rfl) (by decide) cellsW_len (fun fuel c y hc => open_wr hc) hd
  exact ⟨us, ⟨h1.1, fun e he => (h2 e he).1⟩, fun e he => (h2 e he).2⟩
end
end Stm
end Go.Proofs.Ytbllkmhkpapgeaa
