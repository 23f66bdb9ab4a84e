/- Objects that come in: what they are, from a row's condition on its arguments; conditions: none. -/
import Derived.Test.YtdakeicfhbggeaaGreatOmor
import Derived.Test.YtdakeicfhbggeaaGreatSxk
import Derived.Test.YtdakeicfhbggeaaGreatEvs
import Derived.Test.YtdakeicfhbggeaaGreatChy
import Derived.Test.YtdakeicfhbggeaaGreatLcg
/- Oopen: Objects that come in: what they are, from a row's condition on its arguments; conditions: none. -/
namespace Go.Proofs.YtdakeicfhbggeaaGreat
namespace Ojt
open Go Go.RowKit Sx Vec
set_option maxRecDepth 100000
theorem len8 {α : Type} : ∀ {l : List α}, l.length = 8 → ∃ a b c d e f g h, l = [a, b, c, d, e, f, g, h]
  | [a, b, c, d, e, f, g, h], _ => ⟨a, b, c, d, e, f, g, h, rfl⟩
section
variable {H : Type} {enc : TypeId × Value → H} {W : World} {sp : Nat → Bool} {held : Bool} {r : Reach} {base : Nat}
theorem open_res1 {fuel : Nat} {v : Value} {x : DataW H × List MemPlace} (hd : DataW.trod enc Tryz.prog W 0 sp held fuel 59 [v] = some x) : ∃ rs : List Ent, ResAt W v rs ∧ numR rs := by
  obtain ⟨us, h1, h2⟩ := open_slice_g (P := Tryz.prog) (t := 59) (e := 87) (sz := 2) (f := cellsR) (Q := fun r => -9223372036854775808 ≤ r.2 ∧ r.2 ≤ 9223372036854775807) (by kernel_rfl) (by kernel_rfl) (by decide) cellsR_len (fun fuel c y hc => by
    have hfit := flat_fit 8 fuel 87 [.string, .int .i64] (by kernel_rfl) c y (by kernel_rfl) hc
    obtain ⟨a, b, rfl⟩ := len2 hfit.len
    obtain ⟨⟨l, rfl⟩, ⟨n, rfl, h1, h2⟩, -⟩ := hfit
    have e1 : IntKind.i64.min = -9223372036854775808 := by decide
    have e2 : IntKind.i64.max = 9223372036854775807 := by decide
    exact ⟨(l, n), rfl, by omega, by omega⟩) hd
  exact ⟨us, h1.1, h2⟩
end
end Ojt
end Go.Proofs.YtdakeicfhbggeaaGreat
/- Eopen: Objects' lists and events that come in: what they are, from a row's condition on its arguments; conditions: none. -/
namespace Go.Proofs.YtdakeicfhbggeaaGreat
namespace Evt
open Go Go.RowKit Sx Vec Ojt
set_option maxRecDepth 100000
section
variable {H : Type} {enc : TypeId × Value → H} {W : World} {sp : Nat → Bool} {held : Bool} {r : Reach} {base : Nat}
def goodO (o : Ob) : Prop := numR o.rs ∧ o.ver ≤ 9223372036854775807
theorem open_ob {fuel : Nat} {c : List Value} {x : DataW H × List MemPlace} (hd : DataW.trod enc Tryz.prog W 0 sp held fuel 61 c = some x) : ∃ p : PO, c = cellsO p ∧ ResAt W p.1 p.2.rs ∧ goodO p.2 := by
  have hl := struct_len (P := Tryz.prog) (t := 61) (i := 1) (e := 2) (o := 3) hd (by kernel_rfl)
  obtain ⟨v0, v1, v2, v3, v4, v5, v6, v7, rfl⟩ := len8 (hl.trans (by kernel_rfl))
  obtain ⟨f0, y0, h0⟩ := open_struct_part (P := Tryz.prog) (t := 61) (i := 0) (e := 58) (o := 0) hd (by kernel_rfl)
  obtain ⟨f1, y1, h1⟩ := open_struct_part (P := Tryz.prog) (t := 61) (i := 1) (e := 2) (o := 3) hd (by kernel_rfl)
  obtain ⟨f2, y2, h2⟩ := open_struct_part (P := Tryz.prog) (t := 61) (i := 2) (e := 9) (o := 4) hd (by kernel_rfl)
  obtain ⟨f3, y3, h3⟩ := open_struct_part (P := Tryz.prog) (t := 61) (i := 3) (e := 4) (o := 5) hd (by kernel_rfl)
  obtain ⟨f4, y4, h4⟩ := open_struct_part (P := Tryz.prog) (t := 61) (i := 4) (e := 4) (o := 6) hd (by kernel_rfl)
  obtain ⟨f5, y5, h5⟩ := open_struct_part (P := Tryz.prog) (t := 61) (i := 5) (e := 59) (o := 7) hd (by kernel_rfl)
  rw [show Tryz.prog.cellsOf 58 = 3 by kernel_rfl] at h0
  rw [show Tryz.prog.cellsOf 2 = 1 by kernel_rfl] at h1
  rw [show Tryz.prog.cellsOf 9 = 1 by kernel_rfl] at h2
  rw [show Tryz.prog.cellsOf 4 = 1 by kernel_rfl] at h3 h4
  rw [show Tryz.prog.cellsOf 59 = 1 by kernel_rfl] at h5
  obtain ⟨⟨k, e0⟩, ⟨s, e1⟩, ⟨n, e2⟩, -⟩ := flat_fit 8 f0 58 [.string, .string, .string] (by kernel_rfl) _ y0 (by kernel_rfl) h0
  obtain ⟨⟨ver, e3, g1, g2⟩, -⟩ := flat_fit 8 f1 2 [.int .i64] (by kernel_rfl) _ y1 (by kernel_rfl) h1
  obtain ⟨⟨c, e4⟩, -⟩ := flat_fit 8 f2 9 [.string] (by kernel_rfl) _ y2 (by kernel_rfl) h2
  obtain ⟨⟨tm, e5⟩, -⟩ := flat_fit 8 f3 4 [.bool] (by kernel_rfl) _ y3 (by kernel_rfl) h3
  obtain ⟨⟨bs, e6⟩, -⟩ := flat_fit 8 f4 4 [.bool] (by kernel_rfl) _ y4 (by kernel_rfl) h4
  obtain ⟨rs, hr, hn⟩ := open_res1 h5
  have em : IntKind.i64.max = 9223372036854775807 := by decide
  subst e0 e1 e2 e3 e4 e5 e6
  exact ⟨(v7, ⟨k, s, n, ver, c, tm, bs, rs⟩), rfl, hr, hn, by show ver ≤ _; omega⟩
theorem open_objs {fuel : Nat} {v : Value} {x : DataW H × List MemPlace} (hd : DataW.trod enc Tryz.prog W 0 sp held fuel 54 [v] = some x) : ∃ ps, ObjsAt W v ps ∧ ∀ p ∈ ps, goodO p.2 := by
  obtain ⟨us, h1, h2⟩ := open_slice_g (P := Tryz.prog) (t := 54) (e := 61) (sz := 8) (f := cellsO) (Q := fun p => ResAt W p.1 p.2.rs ∧ goodO p.2) (by kernel_rfl) (by kernel_rfl) (by decide) cellsO_len (fun fuel c y hc => open_ob hc) hd
  exact ⟨us, ⟨h1.1, fun p hp => (h2 p hp).1⟩, fun p hp => (h2 p hp).2⟩
end
end Evt
end Go.Proofs.YtdakeicfhbggeaaGreat
/- Copen: Lists of events that come in: what they are, from a row's condition on its arguments; conditions: none. -/
namespace Go.Proofs.YtdakeicfhbggeaaGreat
namespace Chm
open Go Go.RowKit Sx Lab Vec Ojt Evt
end Chm
end Go.Proofs.YtdakeicfhbggeaaGreat
/- Lcopen: Scopes, lists of lists of deltas, two lists of objects that come in: what they are, from a row's condition on its arguments; conditions: none. -/
namespace Go.Proofs.YtdakeicfhbggeaaGreat
namespace Lct
open Go Go.RowKit Sx Vec Ojt Scp
set_option maxRecDepth 100000
section
variable {H : Type} {enc : TypeId × Value → H} {W : World} {sp : Nat → Bool} {held : Bool} {r : Reach} {base : Nat}
theorem open_txtL {fuel : Nat} {v : Value} {x : DataW H × List MemPlace} (hd : DataW.trod enc Tryz.prog W 0 sp held fuel 32 [v] = some x) : ∃ vs : List Scp.Nm, TxtAt W v vs := by
  obtain ⟨us, h1, -⟩ := open_slice_g (P := Tryz.prog) (t := 32) (e := 9) (sz := 1) (f := cellsS) (Q := fun _ => True) (by kernel_rfl) (by kernel_rfl) (by decide) cellsS_len (fun fuel c y hc => by
    have hfit := flat_fit 8 fuel 9 [.string] (by kernel_rfl) c y (by kernel_rfl) hc
    obtain ⟨a, rfl⟩ : ∃ a, c = [a] := by
      have := hfit.len
      match c, this with
      | [a], _ => exact ⟨a, rfl⟩
    obtain ⟨⟨l, rfl⟩, -⟩ := hfit
    exact ⟨l, rfl, trivial⟩) hd
  exact ⟨us, h1.1⟩
theorem open_trmL {fuel : Nat} {c : List Value} {x : DataW H × List MemPlace} (hd : DataW.trod enc Tryz.prog W 0 sp held fuel 85 c = some x) : ∃ p : Value × Trm, c = cellsT p ∧ TxtAt W p.1 p.2.2 := by
  have hl := struct_len (P := Tryz.prog) (t := 85) (i := 0) (e := 83) (o := 0) hd (by kernel_rfl)
  obtain ⟨a, b, rfl⟩ : ∃ a b, c = [a, b] := by
    have h2 := hl.trans (show _ = 2 by kernel_rfl)
    match c, h2 with
    | [a, b], _ => exact ⟨a, b, rfl⟩
  obtain ⟨f1, y1, h1⟩ := open_struct_part (P := Tryz.prog) (t := 85) (i := 0) (e := 83) (o := 0) hd (by kernel_rfl)
  obtain ⟨f2, y2, h2⟩ := open_struct_part (P := Tryz.prog) (t := 85) (i := 1) (e := 32) (o := 1) hd (by kernel_rfl)
  rw [show Tryz.prog.cellsOf 83 = 1 by kernel_rfl] at h1
  rw [show Tryz.prog.cellsOf 32 = 1 by kernel_rfl] at h2
  obtain ⟨⟨n, hn, -, -⟩, -⟩ := flat_fit 8 f1 83 [.int .i64] (by kernel_rfl) _ y1 (by kernel_rfl) h1
  obtain ⟨vs, hvs⟩ := open_txtL h2
  subst hn
  exact ⟨(b, n, vs), rfl, hvs⟩
theorem one_cell {t e : TypeId} {fuel : Nat} {c : List Value} {x : DataW H × List MemPlace} (hu : Tryz.prog.underlying t = some (.slice e)) (hd : DataW.trod enc Tryz.prog W 0 sp held fuel t c = some x) : ∃ v, c = [v] := by
  rcases DataW.trod_slice hu hd with ⟨h0, -⟩ | ⟨a, len, cap, elems, rest, n, -, hcs, -⟩
  · exact ⟨_, h0⟩
  · exact ⟨_, hcs⟩
theorem open_scL {fuel : Nat} {c : List Value} {x : DataW H × List MemPlace} (hd : DataW.trod enc Tryz.prog W 0 sp held fuel 51 c = some x) : ∃ s : Sc, c = cellsSc s ∧ ScpAt W s.1 s.2 := by
  obtain ⟨v, rfl⟩ := one_cell (e := 85) (by kernel_rfl) hd
  obtain ⟨us, h1, h2⟩ := open_slice_g (P := Tryz.prog) (t := 51) (e := 85) (sz := 2) (f := cellsT) (Q := fun p => TxtAt W p.1 p.2.2) (by kernel_rfl) (by kernel_rfl) (by decide) cellsT_len (fun fuel c y hc => open_trmL hc) hd
  exact ⟨(v, us), rfl, h1.1, fun p hp => h2 p hp⟩
theorem open_scs {v : Value} {d : DataW H} {ps : List MemPlace} (hv : Value.okWide Tryz.prog W r base 22 v) (hd : DataW.Trod enc Tryz.prog W 0 sp held 22 v d ps) : ∃ ss, ScsAt W v ss := by
  have hu : Tryz.prog.underlying 22 = some (.slice 51) := by kernel_rfl
  have hc : Cell.okWide Tryz.prog W r base 22 v := by unfold Value.okWide at hv; rw [hu] at hv; exact hv
  obtain ⟨a, n, c, rfl⟩ := slice_cell hu hc
  obtain ⟨fuel, hd⟩ := hd
  obtain ⟨us, h1, h2⟩ := open_slice_g (P := Tryz.prog) (t := 22) (e := 51) (sz := 1) (f := cellsSc) (Q := fun s => ScpAt W s.1 s.2) (by kernel_rfl) (by kernel_rfl) (by decide) cellsSc_len (fun fuel c y hc => open_scL hc) hd
  exact ⟨us, h1.1, fun s hs => h2 s hs⟩
theorem open_del {fuel : Nat} {c : List Value} {x : DataW H × List MemPlace} (hd : DataW.trod enc Tryz.prog W 0 sp held fuel 82 c = some x) :
    ∃ d : Chm.PD, c = Chm.cellsD d ∧ (ResAt W d.old.1 d.old.2.rs ∧ ResAt W d.new.1 d.new.2.rs) ∧ numR d.old.2.rs ∧ numR d.new.2.rs := by
  have hl := struct_len (P := Tryz.prog) (t := 82) (i := 3) (e := 61) (o := 5) hd (by kernel_rfl)
  have hl2 := hl.trans (show _ = 21 by kernel_rfl)
  obtain ⟨f0, y0, h0⟩ := open_struct_part (P := Tryz.prog) (t := 82) (i := 0) (e := 58) (o := 0) hd (by kernel_rfl)
  obtain ⟨f1, y1, h1⟩ := open_struct_part (P := Tryz.prog) (t := 82) (i := 1) (e := 4) (o := 3) hd (by kernel_rfl)
  obtain ⟨f2, y2, h2⟩ := open_struct_part (P := Tryz.prog) (t := 82) (i := 2) (e := 4) (o := 4) hd (by kernel_rfl)
  obtain ⟨f3, y3, h3⟩ := open_struct_part (P := Tryz.prog) (t := 82) (i := 3) (e := 61) (o := 5) hd (by kernel_rfl)
  obtain ⟨f4, y4, h4⟩ := open_struct_part (P := Tryz.prog) (t := 82) (i := 4) (e := 61) (o := 13) hd (by kernel_rfl)
  rw [show Tryz.prog.cellsOf 58 = 3 by kernel_rfl] at h0
  rw [show Tryz.prog.cellsOf 4 = 1 by kernel_rfl] at h1 h2
  rw [show Tryz.prog.cellsOf 61 = 8 by kernel_rfl] at h3 h4
  obtain ⟨⟨xo, ko, so, no, vo, co, tmo, bso, rso⟩, hc3, hr3, hg3⟩ := Evt.open_ob h3
  obtain ⟨⟨xn, kn, sn, nn, vn, cn, tmn, bsn, rsn⟩, hc4, hr4, hg4⟩ := Evt.open_ob h4
  match c, hl2, h0, h1, h2, hc3, hc4 with
  | [v0, v1, v2, v3, v4, v5, v6, v7, v8, v9, v10, v11, v12, v13, v14, v15, v16, v17, v18, v19, v20], _, h0, h1, h2, hc3, hc4 =>
    obtain ⟨⟨k1, e0⟩, ⟨k2, e1⟩, ⟨k3, e2⟩, -⟩ := flat_fit 8 f0 58 [.string, .string, .string] (by kernel_rfl) _ y0 (by kernel_rfl) h0
    obtain ⟨⟨b1, e3⟩, -⟩ := flat_fit 8 f1 4 [.bool] (by kernel_rfl) _ y1 (by kernel_rfl) h1
    obtain ⟨⟨b2, e4⟩, -⟩ := flat_fit 8 f2 4 [.bool] (by kernel_rfl) _ y2 (by kernel_rfl) h2
    have hc3' : [v5, v6, v7, v8, v9, v10, v11, v12] = [S ko, S so, S no, I vo, S co, .bool tmo, .bool bso, xo] := hc3
    have hc4' : [v13, v14, v15, v16, v17, v18, v19, v20] = [S kn, S sn, S nn, I vn, S cn, .bool tmn, .bool bsn, xn] := hc4
    simp only [List.cons.injEq] at hc3' hc4'
    obtain ⟨rfl, rfl, rfl, rfl, rfl, rfl, rfl, rfl, -⟩ := hc3'
    obtain ⟨rfl, rfl, rfl, rfl, rfl, rfl, rfl, rfl, -⟩ := hc4'
    subst e0 e1 e2 e3 e4
    exact ⟨⟨(k1, k2, k3), b1, b2, (_, ⟨ko, so, no, vo, co, tmo, bso, rso⟩), (_, ⟨kn, sn, nn, vn, cn, tmn, bsn, rsn⟩)⟩, rfl, ⟨hr3, hr4⟩, hg3.1, hg4.1⟩
theorem open_dl {fuel : Nat} {c : List Value} {x : DataW H × List MemPlace} (hd : DataW.trod enc Tryz.prog W 0 sp held fuel 35 c = some x) : ∃ d : Dl, c = cellsDl d ∧ DelAt W d.1 d.2 ∧ ∀ y ∈ d.2, numR y.old.2.rs ∧ numR y.new.2.rs := by
  obtain ⟨v, rfl⟩ := one_cell (e := 82) (by kernel_rfl) hd
  obtain ⟨us, h1, h2⟩ := open_slice_g (P := Tryz.prog) (t := 35) (e := 82) (sz := 21) (f := Chm.cellsD) (Q := fun d => (ResAt W d.old.1 d.old.2.rs ∧ ResAt W d.new.1 d.new.2.rs) ∧ numR d.old.2.rs ∧ numR d.new.2.rs) (by kernel_rfl) (by kernel_rfl) (by decide) Chm.cellsD_len (fun fuel c y hc => open_del hc) hd
  exact ⟨(v, us), rfl, ⟨h1.1, fun d hd => (h2 d hd).1⟩, fun d hd => (h2 d hd).2⟩
theorem open_dls {v : Value} {d : DataW H} {ps : List MemPlace} (hv : Value.okWide Tryz.prog W r base 23 v) (hd : DataW.Trod enc Tryz.prog W 0 sp held 23 v d ps) : ∃ l, DlsAt W v l ∧ numD l := by
  have hu : Tryz.prog.underlying 23 = some (.slice 35) := by kernel_rfl
  have hc : Cell.okWide Tryz.prog W r base 23 v := by unfold Value.okWide at hv; rw [hu] at hv; exact hv
  obtain ⟨a, n, c, rfl⟩ := slice_cell hu hc
  obtain ⟨fuel, hd⟩ := hd
  obtain ⟨us, h1, h2⟩ := open_slice_g (P := Tryz.prog) (t := 23) (e := 35) (sz := 1) (f := cellsDl) (Q := fun d => DelAt W d.1 d.2 ∧ ∀ y ∈ d.2, numR y.old.2.rs ∧ numR y.new.2.rs) (by kernel_rfl) (by kernel_rfl) (by decide) cellsDl_len (fun fuel c y hc => open_dl hc) hd
  exact ⟨us, ⟨h1.1, fun d hd => (h2 d hd).1⟩, fun d hd => (h2 d hd).2⟩
theorem open_two {v : Value} {d : DataW H} {ps : List MemPlace} (hv : Value.okWide Tryz.prog W r base 55 v) (hd : DataW.Trod enc Tryz.prog W 0 sp held 55 v d ps) :
    ∃ va vb os qs, v = .agg #[va, vb] ∧ Evt.ObjsAt W va os ∧ Evt.ObjsAt W vb qs ∧ (∀ p ∈ os, numR p.2.rs) ∧ ∀ p ∈ qs, numR p.2.rs := by
  obtain ⟨cs, rfl, hl, -⟩ := open_cells (P := Tryz.prog) (t := 55) (ts := [54, 54]) (by kernel_rfl) (by kernel_rfl) (by kernel_rfl) (by kernel_rfl) hv
  obtain ⟨va, vb, rfl⟩ : ∃ a b, cs = [a, b] := by
    match cs, hl with
    | [a, b], _ => exact ⟨a, b, rfl⟩
  obtain ⟨fuel, hd⟩ := hd
  have hu : Tryz.prog.underlying 55 = some (.array 2 54) := by kernel_rfl
  have hn : Tryz.prog.cellsOf 54 = 1 := by kernel_rfl
  obtain ⟨f1, x1, hd1⟩ := open_arr_cell (m := 2) hu hn (cs := [va, vb]) hd (i := 0) (v := va) (by decide) rfl rfl
  obtain ⟨f2, x2, hd2⟩ := open_arr_cell (m := 2) hu hn (cs := [va, vb]) hd (i := 1) (v := vb) (by decide) rfl rfl
  obtain ⟨os, h1, g1⟩ := Evt.open_objs hd1
  obtain ⟨qs, h2, g2⟩ := Evt.open_objs hd2
  exact ⟨va, vb, os, qs, rfl, h1, h2, fun p hp => (g1 p hp).1, fun p hp => (g2 p hp).1⟩
end
end Lct
end Go.Proofs.YtdakeicfhbggeaaGreat
