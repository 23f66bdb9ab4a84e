/- Objects that come in: what they are, from a row's condition on its arguments; conditions: none. -/
import Derived.Test.YtkjjlppfomidbaaGreatOmor
import Derived.Test.YtkjjlppfomidbaaGreatSxk
import Derived.Test.YtkjjlppfomidbaaGreatEvs
import Derived.Test.YtkjjlppfomidbaaGreatLcg
/- Oopen: Objects that come in: what they are, from a row's condition on its arguments; conditions: none. -/
namespace Go.Proofs.YtkjjlppfomidbaaGreat
namespace Ojt
open Go Go.RowKit Sx Vec
set_option maxRecDepth 100000
theorem len8 {α : Type} : ∀ {l : List α}, l.length = 8 → ∃ a b c d e f g h, l = [a, b, c, d, e, f, g, h]
  | [a, b, c, d, e, f, g, h], _ => ⟨a, b, c, d, e, f, g, h, rfl⟩
section
variable {H : Type} {enc : TypeId × Value → H} {W : World} {sp : Nat → Bool} {held : Bool} {r : Reach} {base : Nat}
theorem open_res1 {fuel : Nat} {v : Value} {x : DataW H × List MemPlace} (hd : DataW.trod enc Tryz.prog W 0 sp held fuel 43 [v] = some x) : ∃ rs : List Ent, ResAt W v rs ∧ numR rs := by
  obtain ⟨us, h1, h2⟩ := open_slice_g (P := Tryz.prog) (t := 43) (e := 67) (sz := 2) (f := cellsR) (Q := fun r => -9223372036854775808 ≤ r.2 ∧ r.2 ≤ 9223372036854775807) (by kernel_rfl) (by kernel_rfl) (by decide) cellsR_len (fun fuel c y hc => by
    have hfit := flat_fit 8 fuel 67 [.string, .int .i64] (by kernel_rfl) c y (by kernel_rfl) hc
    obtain ⟨a, b, rfl⟩ := len2 hfit.len
    obtain ⟨⟨l, rfl⟩, ⟨n, rfl, h1, h2⟩, -⟩ := hfit
    have e1 : IntKind.i64.min = -9223372036854775808 := by decide
    have e2 : IntKind.i64.max = 9223372036854775807 := by decide
    exact ⟨(l, n), rfl, by omega, by omega⟩) hd
  exact ⟨us, h1.1, h2⟩
end
end Ojt
end Go.Proofs.YtkjjlppfomidbaaGreat
/- Eopen: Objects' lists and events that come in: what they are, from a row's condition on its arguments; conditions: none. -/
namespace Go.Proofs.YtkjjlppfomidbaaGreat
namespace Evt
open Go Go.RowKit Sx Vec Ojt
set_option maxRecDepth 100000
section
variable {H : Type} {enc : TypeId × Value → H} {W : World} {sp : Nat → Bool} {held : Bool} {r : Reach} {base : Nat}
def goodO (o : Ob) : Prop := numR o.rs ∧ o.ver ≤ 9223372036854775807
theorem open_ob {fuel : Nat} {c : List Value} {x : DataW H × List MemPlace} (hd : DataW.trod enc Tryz.prog W 0 sp held fuel 45 c = some x) : ∃ p : PO, c = cellsO p ∧ ResAt W p.1 p.2.rs ∧ goodO p.2 := by
  have hl := struct_len (P := Tryz.prog) (t := 45) (i := 1) (e := 2) (o := 3) hd (by kernel_rfl)
  obtain ⟨v0, v1, v2, v3, v4, v5, v6, v7, rfl⟩ := len8 (hl.trans (by kernel_rfl))
  obtain ⟨f0, y0, h0⟩ := open_struct_part (P := Tryz.prog) (t := 45) (i := 0) (e := 42) (o := 0) hd (by kernel_rfl)
  obtain ⟨f1, y1, h1⟩ := open_struct_part (P := Tryz.prog) (t := 45) (i := 1) (e := 2) (o := 3) hd (by kernel_rfl)
  obtain ⟨f2, y2, h2⟩ := open_struct_part (P := Tryz.prog) (t := 45) (i := 2) (e := 9) (o := 4) hd (by kernel_rfl)
  obtain ⟨f3, y3, h3⟩ := open_struct_part (P := Tryz.prog) (t := 45) (i := 3) (e := 4) (o := 5) hd (by kernel_rfl)
  obtain ⟨f4, y4, h4⟩ := open_struct_part (P := Tryz.prog) (t := 45) (i := 4) (e := 4) (o := 6) hd (by kernel_rfl)
  obtain ⟨f5, y5, h5⟩ := open_struct_part (P := Tryz.prog) (t := 45) (i := 5) (e := 43) (o := 7) hd (by kernel_rfl)
  rw [show Tryz.prog.cellsOf 42 = 3 by kernel_rfl] at h0
  rw [show Tryz.prog.cellsOf 2 = 1 by kernel_rfl] at h1
  rw [show Tryz.prog.cellsOf 9 = 1 by kernel_rfl] at h2
  rw [show Tryz.prog.cellsOf 4 = 1 by kernel_rfl] at h3 h4
  rw [show Tryz.prog.cellsOf 43 = 1 by kernel_rfl] at h5
  obtain ⟨⟨k, e0⟩, ⟨s, e1⟩, ⟨n, e2⟩, -⟩ := flat_fit 8 f0 42 [.string, .string, .string] (by kernel_rfl) _ y0 (by kernel_rfl) h0
  obtain ⟨⟨ver, e3, g1, g2⟩, -⟩ := flat_fit 8 f1 2 [.int .i64] (by kernel_rfl) _ y1 (by kernel_rfl) h1
  obtain ⟨⟨c, e4⟩, -⟩ := flat_fit 8 f2 9 [.string] (by kernel_rfl) _ y2 (by kernel_rfl) h2
  obtain ⟨⟨tm, e5⟩, -⟩ := flat_fit 8 f3 4 [.bool] (by kernel_rfl) _ y3 (by kernel_rfl) h3
  obtain ⟨⟨bs, e6⟩, -⟩ := flat_fit 8 f4 4 [.bool] (by kernel_rfl) _ y4 (by kernel_rfl) h4
  obtain ⟨rs, hr, hn⟩ := open_res1 h5
  have em : IntKind.i64.max = 9223372036854775807 := by decide
  subst e0 e1 e2 e3 e4 e5 e6
  exact ⟨(v7, ⟨k, s, n, ver, c, tm, bs, rs⟩), rfl, hr, hn, by show ver ≤ _; omega⟩
theorem open_objs {fuel : Nat} {v : Value} {x : DataW H × List MemPlace} (hd : DataW.trod enc Tryz.prog W 0 sp held fuel 23 [v] = some x) : ∃ ps, ObjsAt W v ps ∧ ∀ p ∈ ps, goodO p.2 := by
  obtain ⟨us, h1, h2⟩ := open_slice_g (P := Tryz.prog) (t := 23) (e := 45) (sz := 8) (f := cellsO) (Q := fun p => ResAt W p.1 p.2.rs ∧ goodO p.2) (by kernel_rfl) (by kernel_rfl) (by decide) cellsO_len (fun fuel c y hc => open_ob hc) hd
  exact ⟨us, ⟨h1.1, fun p hp => (h2 p hp).1⟩, fun p hp => (h2 p hp).2⟩
theorem open_objs1 {v : Value} {d : DataW H} {ps : List MemPlace} (hv : Value.okWide Tryz.prog W r base 23 v) (hd : DataW.Trod enc Tryz.prog W 0 sp held 23 v d ps) : ∃ ps, ObjsAt W v ps ∧ ∀ p ∈ ps, goodO p.2 := by
  have hu : Tryz.prog.underlying 23 = some (.slice 45) := by kernel_rfl
  have hc : Cell.okWide Tryz.prog W r base 23 v := by unfold Value.okWide at hv; rw [hu] at hv; exact hv
  obtain ⟨a, n, c, rfl⟩ := slice_cell hu hc
  obtain ⟨fuel, hd⟩ := hd
  exact open_objs hd
end
end Evt
end Go.Proofs.YtkjjlppfomidbaaGreat
/- Lcopen: Scopes, lists of lists of deltas, two lists of objects that come in: what they are, from a row's condition on its arguments; conditions: none. -/
namespace Go.Proofs.YtkjjlppfomidbaaGreat
namespace Lct
open Go Go.RowKit Sx Vec Ojt Scp
set_option maxRecDepth 100000
section
variable {H : Type} {enc : TypeId × Value → H} {W : World} {sp : Nat → Bool} {held : Bool} {r : Reach} {base : Nat}
theorem open_txtL {fuel : Nat} {v : Value} {x : DataW H × List MemPlace} (hd : DataW.trod enc Tryz.prog W 0 sp held fuel 39 [v] = some x) : ∃ vs : List Scp.Nm, TxtAt W v vs := by
  obtain ⟨us, h1, -⟩ := open_slice_g (P := Tryz.prog) (t := 39) (e := 9) (sz := 1) (f := cellsS) (Q := fun _ => True) (by kernel_rfl) (by kernel_rfl) (by decide) cellsS_len (fun fuel c y hc => by
    have hfit := flat_fit 8 fuel 9 [.string] (by kernel_rfl) c y (by kernel_rfl) hc
    obtain ⟨a, rfl⟩ : ∃ a, c = [a] := by
      have := hfit.len
      match c, this with
      | [a], _ => exact ⟨a, rfl⟩
    obtain ⟨⟨l, rfl⟩, -⟩ := hfit
    exact ⟨l, rfl, trivial⟩) hd
  exact ⟨us, h1.1⟩
theorem open_trmL {fuel : Nat} {c : List Value} {x : DataW H × List MemPlace} (hd : DataW.trod enc Tryz.prog W 0 sp held fuel 130 c = some x) : ∃ p : Value × Trm, c = cellsT p ∧ TxtAt W p.1 p.2.2 := by
  have hl := struct_len (P := Tryz.prog) (t := 130) (i := 0) (e := 128) (o := 0) hd (by kernel_rfl)
  obtain ⟨a, b, rfl⟩ : ∃ a b, c = [a, b] := by
    have h2 := hl.trans (show _ = 2 by kernel_rfl)
    match c, h2 with
    | [a, b], _ => exact ⟨a, b, rfl⟩
  obtain ⟨f1, y1, h1⟩ := open_struct_part (P := Tryz.prog) (t := 130) (i := 0) (e := 128) (o := 0) hd (by kernel_rfl)
  obtain ⟨f2, y2, h2⟩ := open_struct_part (P := Tryz.prog) (t := 130) (i := 1) (e := 39) (o := 1) hd (by kernel_rfl)
  rw [show Tryz.prog.cellsOf 128 = 1 by kernel_rfl] at h1
  rw [show Tryz.prog.cellsOf 39 = 1 by kernel_rfl] at h2
  obtain ⟨⟨n, hn, -, -⟩, -⟩ := flat_fit 8 f1 128 [.int .i64] (by kernel_rfl) _ y1 (by kernel_rfl) h1
  obtain ⟨vs, hvs⟩ := open_txtL h2
  subst hn
  exact ⟨(b, n, vs), rfl, hvs⟩
theorem one_cell {t e : TypeId} {fuel : Nat} {c : List Value} {x : DataW H × List MemPlace} (hu : Tryz.prog.underlying t = some (.slice e)) (hd : DataW.trod enc Tryz.prog W 0 sp held fuel t c = some x) : ∃ v, c = [v] := by
  rcases DataW.trod_slice hu hd with ⟨h0, -⟩ | ⟨a, len, cap, elems, rest, n, -, hcs, -⟩
  · exact ⟨_, h0⟩
  · exact ⟨_, hcs⟩
theorem open_scL {fuel : Nat} {c : List Value} {x : DataW H × List MemPlace} (hd : DataW.trod enc Tryz.prog W 0 sp held fuel 86 c = some x) : ∃ s : Sc, c = cellsSc s ∧ ScpAt W s.1 s.2 := by
  obtain ⟨v, rfl⟩ := one_cell (e := 130) (by kernel_rfl) hd
  obtain ⟨us, h1, h2⟩ := open_slice_g (P := Tryz.prog) (t := 86) (e := 130) (sz := 2) (f := cellsT) (Q := fun p => TxtAt W p.1 p.2.2) (by kernel_rfl) (by kernel_rfl) (by decide) cellsT_len (fun fuel c y hc => open_trmL hc) hd
  exact ⟨(v, us), rfl, h1.1, fun p hp => h2 p hp⟩
theorem open_scs {v : Value} {d : DataW H} {ps : List MemPlace} (hv : Value.okWide Tryz.prog W r base 22 v) (hd : DataW.Trod enc Tryz.prog W 0 sp held 22 v d ps) : ∃ ss, ScsAt W v ss := by
  have hu : Tryz.prog.underlying 22 = some (.slice 86) := by kernel_rfl
  have hc : Cell.okWide Tryz.prog W r base 22 v := by unfold Value.okWide at hv; rw [hu] at hv; exact hv
  obtain ⟨a, n, c, rfl⟩ := slice_cell hu hc
  obtain ⟨fuel, hd⟩ := hd
  obtain ⟨us, h1, h2⟩ := open_slice_g (P := Tryz.prog) (t := 22) (e := 86) (sz := 1) (f := cellsSc) (Q := fun s => ScpAt W s.1 s.2) (by kernel_rfl) (by kernel_rfl) (by decide) cellsSc_len (fun fuel c y hc => open_scL hc) hd
  exact ⟨us, h1.1, fun s hs => h2 s hs⟩
end
end Lct
end Go.Proofs.YtkjjlppfomidbaaGreat
