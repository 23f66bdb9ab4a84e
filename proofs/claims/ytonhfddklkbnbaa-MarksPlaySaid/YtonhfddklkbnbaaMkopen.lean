/- Lists of acts on marks, and of names, that come in: what they are, from a row's condition on its arguments; conditions: none. -/
import Derived.Test.YtonhfddklkbnbaaMkc
import Derived.Test.YtonhfddklkbnbaaTropen
import Derived.Test.YtonhfddklkbnbaaSxk
namespace Go.Proofs.Ytonhfddklkbnbaa
namespace Mkt
open Go Go.RowKit Sx Trt
set_option maxRecDepth 100000
section
variable {H : Type} {enc : TypeId × Value → H} {W : World} {sp : Nat → Bool} {held : Bool} {r : Reach} {base : Nat}

theorem open_txt {fuel : Nat} {v : Value} {x : DataW H × List MemPlace} (hd : DataW.trod enc Try.prog W 0 sp held fuel 38 [v] = some x) : ∃ vs : List Nm, OldRow W 1 v vs.length (vs.flatMap cells1) := by
  obtain ⟨us, h1, -⟩ := open_slice_g (P := Try.prog) (t := 38) (e := 9) (sz := 1) (f := cells1) (Q := fun _ => True) (by kernel_rfl) (by kernel_rfl) (by decide) cells1_len (fun fuel c y hc => by
    have hfit := flat_fit 8 fuel 9 [.string] (by kernel_rfl) c y (by kernel_rfl) hc
    obtain ⟨a, rfl⟩ : ∃ a, c = [a] := by
      have := hfit.len
      match c, this with
      | [a], _ => exact ⟨a, rfl⟩
    obtain ⟨⟨l, rfl⟩, -⟩ := hfit
    exact ⟨l, rfl, trivial⟩) hd
  exact ⟨us, h1.1⟩
theorem open_txts {v : Value} {d : DataW H} {ps : List MemPlace} (hv : Value.okWide Try.prog W r base 38 v) (hd : DataW.Trod enc Try.prog W 0 sp held 38 v d ps) : ∃ vs : List Nm, OldRow W 1 v vs.length (vs.flatMap cells1) := by
  have hu : Try.prog.underlying 38 = some (.slice 9) := by kernel_rfl
  have hc : Cell.okWide Try.prog W r base 38 v := by unfold Value.okWide at hv; rw [hu] at hv; exact hv
  obtain ⟨a, n, c, rfl⟩ := slice_cell hu hc
  obtain ⟨fuel, hd⟩ := hd
  exact open_txt hd
theorem open_am {fuel : Nat} {c : List Value} {x : DataW H × List MemPlace} (hd : DataW.trod enc Try.prog W 0 sp held fuel 40 c = some x) : ∃ a : Am, c = cellsM a ∧ OldRow W 1 a.v a.ks.length (a.ks.flatMap cells1) ∧ 0 ≤ a.kind := by
  have hl := struct_len (P := Try.prog) (t := 40) (i := 0) (e := 5) (o := 0) hd (by kernel_rfl)
  obtain ⟨c0, c1, c2, rfl⟩ := Trt.len3 (hl.trans (by kernel_rfl))
  obtain ⟨f1, y1, h1⟩ := open_struct_part (P := Try.prog) (t := 40) (i := 0) (e := 5) (o := 0) hd (by kernel_rfl)
  obtain ⟨f2, y2, h2⟩ := open_struct_part (P := Try.prog) (t := 40) (i := 1) (e := 38) (o := 1) hd (by kernel_rfl)
  obtain ⟨f3, y3, h3⟩ := open_struct_part (P := Try.prog) (t := 40) (i := 2) (e := 9) (o := 2) hd (by kernel_rfl)
  rw [show Try.prog.cellsOf 5 = 1 by kernel_rfl] at h1
  rw [show Try.prog.cellsOf 38 = 1 by kernel_rfl] at h2
  rw [show Try.prog.cellsOf 9 = 1 by kernel_rfl] at h3
  obtain ⟨⟨n, hn, g1, -⟩, -⟩ := flat_fit 8 f1 5 [.int .u8] (by kernel_rfl) _ y1 (by kernel_rfl) h1
  obtain ⟨⟨s, hs⟩, -⟩ := flat_fit 8 f3 9 [.string] (by kernel_rfl) _ y3 (by kernel_rfl) h3
  obtain ⟨vs, hvs⟩ := open_txt h2
  subst hn
  subst hs
  exact ⟨⟨n, c1, vs, s⟩, rfl, hvs, g1⟩
theorem open_ams {v : Value} {d : DataW H} {ps : List MemPlace} (hv : Value.okWide Try.prog W r base 22 v) (hd : DataW.Trod enc Try.prog W 0 sp held 22 v d ps) : ∃ xs : List Am, ActsAt W v xs ∧ ∀ a ∈ xs, 0 ≤ a.kind := by
  have hu : Try.prog.underlying 22 = some (.slice 40) := by kernel_rfl
  have hc : Cell.okWide Try.prog W r base 22 v := by unfold Value.okWide at hv; rw [hu] at hv; exact hv
  obtain ⟨a, n, c, rfl⟩ := slice_cell hu hc
  obtain ⟨fuel, hd⟩ := hd
  obtain ⟨us, h1, h2⟩ := open_slice_g (P := Try.prog) (t := 22) (e := 40) (sz := 3) (f := cellsM) (Q := fun a => OldRow W 1 a.v a.ks.length (a.ks.flatMap cells1) ∧ 0 ≤ a.kind) (by kernel_rfl) (by kernel_rfl) (by decide) cellsM_len (fun fuel c y hc => open_am hc) hd
  exact ⟨us, ⟨h1.1, fun a ha => (h2 a ha).1⟩, fun a ha => (h2 a ha).2⟩
end
end Mkt
end Go.Proofs.Ytonhfddklkbnbaa
