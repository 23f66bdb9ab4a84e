/- There and back: the sum of any two wide numbers, less either one, is the other one, and does not hang on their order; a difference, and what was taken, is as it was; a number shifted by one is its sum with itself; by two numbers, one after the other, it is shifted by both together; conditions: none. -/
import Derived.Test.YtjpklbifmnfemaaFrame
import Derived.Test.YtjpklbifmnfemaaWlawb
namespace Go.Proofs.Ytjpklbifmnfemaa.lawWideBack
open Go Go.ChangeShapes Go.WideShapes Go.ChangeAt Go.RowKit Sx
attribute [local irreducible] Go.Calls

theorem own : ownKnob Try.prog.godebug = none := by kernel_rfl

set_option maxRecDepth 100000 in
theorem lifted (os : Os) (started : os.Started) (H : Type) (enc : TypeId × Value → H) :
    ReturnsInHanded {} Try.checked os 4 .any (Rows.wideBackSpec.pre6 enc Try.prog Try.f4 Rows.wideBackRow.domain false) (Rows.wideBackSpec.post enc Try.prog Try.f4 false true false false) := by
  refine returnsInHanded_of_change (C := Try.checked) own started (by kernel_rfl) Try.func4
    (ChangeSpec.witness6 (enc := enc) (C := Try.checked) false ⟨#[], #[.agg #[.int .i64 0, .int .u64 0, .int .i64 0, .int .u64 0], .agg #[.int .u8 0, .int .u8 0]], []⟩ 8 (by kernel_rfl) (by kernel_rfl) (by kernel_rfl) (by kernel_rfl)) ?_
  intro W base args ds gs before hval0 hW _ _
  have hval : ∀ (j : Nat) t v, Try.f4.params[j]? = some t → args[j]? = some v → Value.okWide Try.prog W .any base t v := hval0
  have hW' := hW
  obtain ⟨p, q, hA0, hV, rfl, hfz, hnd⟩ := hW
  have hA : DataW.TrodAll enc Try.prog W 0 (fun _ => true) true Try.f4.params.toList args.toList ds p := hA0
  rw [Try.params4] at hA hval
  obtain ⟨v0, v1, d0, d1, p0, p1, rfl, rfl, rfl, h0, h1⟩ := trodAll_two hA
  obtain ⟨rfl, rfl⟩ := trodVars_none hV
  obtain ⟨cs, rfl, hl, hall⟩ := open_cells (P := Try.prog) (ts := [2, 22, 2, 22]) (by kernel_rfl) (by kernel_rfl) (by kernel_rfl) (by kernel_rfl) (hval 0 25 v0 rfl rfl)
  obtain ⟨c0, c1, c2, c3, rfl⟩ := len4 hl
  obtain ⟨x1, rfl, a1, a2⟩ := cell_int (k := .i64) (by kernel_rfl) (hall 0 c0 2 rfl rfl)
  obtain ⟨y1, rfl, a3, a4⟩ := cell_int (k := .u64) (by kernel_rfl) (hall 1 c1 22 rfl rfl)
  obtain ⟨x2, rfl, b1, b2⟩ := cell_int (k := .i64) (by kernel_rfl) (hall 2 c2 2 rfl rfl)
  obtain ⟨y2, rfl, b3, b4⟩ := cell_int (k := .u64) (by kernel_rfl) (hall 3 c3 22 rfl rfl)
  obtain ⟨es, rfl, hl2, hall2⟩ := open_cells (P := Try.prog) (ts := [5, 5]) (by kernel_rfl) (by kernel_rfl) (by kernel_rfl) (by kernel_rfl) (hval 1 36 v1 rfl rfl)
  obtain ⟨e0, e1, rfl⟩ := len2 hl2
  obtain ⟨z0, rfl, f1, f2⟩ := cell_int (k := .u8) (by kernel_rfl) (hall2 0 e0 5 rfl rfl)
  obtain ⟨z1, rfl, f3, f4⟩ := cell_int (k := .u8) (by kernel_rfl) (hall2 1 e1 5 rfl rfl)
  have hk := Wid.back_ok x1 y1 x2 y2 z0 z1 (Wid.isW_of a1 a2 a3 a4) (Wid.isW_of b1 b2 b3 b4) f1 f2 f3 f4 W
  refine hk.mono fun e W' ⟨he, hg⟩ => ?_
  subst he
  have hq : Rows.wideBackSpec.fn H ([d0, d1] ++ []) = { results := [.lit (.bool true)], args := [d0, d1] } := rfl
  exact ⟨_, rfl, law_post (bt := 4) hW' rfl (by kernel_rfl) (by kernel_rfl) rfl (by kernel_rfl) hq hg⟩

theorem proved : Rows.WideBackSaid :=
  OpenClaim.holds_of_wide 4 Try.f4 rfl rfl rfl rfl rfl rfl rfl ⟨rfl, rfl, rfl, rfl, rfl⟩ rfl rfl rfl rfl rfl (by kernel_rfl) Try.func4 (by kernel_rfl)
    (of_decide_eq_true (by kernel_rfl)) (by unfold Func.isWrapper; first | (rw [if_pos (by decide +kernel)]; kernel_rfl) | (rw [if_neg (by decide +kernel)]; exact ⟨rfl, rfl⟩))
    (fun os started H enc _ => lifted os started H enc)
end Go.Proofs.Ytjpklbifmnfemaa.lawWideBack
