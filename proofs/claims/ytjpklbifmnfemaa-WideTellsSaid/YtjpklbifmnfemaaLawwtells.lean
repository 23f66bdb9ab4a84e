/- The wide number of any number, sum, difference, order and text of any two wide ones, whether they fit, and any one shifted by any number, are as the document says; conditions: none. -/
import Derived.Test.YtjpklbifmnfemaaFrame
import Derived.Test.YtjpklbifmnfemaaWlaw
namespace Go.Proofs.Ytjpklbifmnfemaa.lawWideTells
open Go Go.ChangeShapes Go.WideShapes Go.ChangeAt Go.RowKit Sx
attribute [local irreducible] Go.Calls

theorem own : ownKnob Try.prog.godebug = none := by kernel_rfl

set_option maxRecDepth 100000 in
theorem lifted (os : Os) (started : os.Started) (H : Type) (enc : TypeId × Value → H) :
    ReturnsInHanded {} Try.checked os 3 .any (Rows.wideTellsSpec.pre6 enc Try.prog Try.f3 Rows.wideTellsRow.domain false) (Rows.wideTellsSpec.post enc Try.prog Try.f3 false true false false) := by
  refine returnsInHanded_of_change (C := Try.checked) own started (by kernel_rfl) Try.func3
    (ChangeSpec.witness6 (enc := enc) (C := Try.checked) false ⟨#[], #[.int .i64 0, .agg #[.int .i64 0, .int .u64 0, .int .i64 0, .int .u64 0], .int .i64 0], []⟩ 8 (by kernel_rfl) (by kernel_rfl) (by kernel_rfl) (by kernel_rfl)) ?_
  intro W base args ds gs before hval0 hW _ _
  have hval : ∀ (j : Nat) t v, Try.f3.params[j]? = some t → args[j]? = some v → Value.okWide Try.prog W .any base t v := hval0
  have hW' := hW
  obtain ⟨p, q, hA0, hV, rfl, hfz, hnd⟩ := hW
  have hA : DataW.TrodAll enc Try.prog W 0 (fun _ => true) true Try.f3.params.toList args.toList ds p := hA0
  rw [Try.params3] at hA hval
  obtain ⟨v0, v1, v2, d0, d1, d2, p0, p1, p2, rfl, rfl, rfl, h0, h1, h2⟩ := trodAll_three hA
  obtain ⟨rfl, rfl⟩ := trodVars_none hV
  obtain ⟨n, rfl, n0, n1⟩ := openi (P := Try.prog) (k := .i64) (by kernel_rfl) (hval 0 2 v0 rfl rfl)
  obtain ⟨cs, rfl, hl, hall⟩ := open_cells (P := Try.prog) (ts := [2, 22, 2, 22]) (by kernel_rfl) (by kernel_rfl) (by kernel_rfl) (by kernel_rfl) (hval 1 25 v1 rfl rfl)
  obtain ⟨c0, c1, c2, c3, rfl⟩ := len4 hl
  obtain ⟨x1, rfl, a1, a2⟩ := cell_int (k := .i64) (by kernel_rfl) (hall 0 c0 2 rfl rfl)
  obtain ⟨y1, rfl, a3, a4⟩ := cell_int (k := .u64) (by kernel_rfl) (hall 1 c1 22 rfl rfl)
  obtain ⟨x2, rfl, b1, b2⟩ := cell_int (k := .i64) (by kernel_rfl) (hall 2 c2 2 rfl rfl)
  obtain ⟨y2, rfl, b3, b4⟩ := cell_int (k := .u64) (by kernel_rfl) (hall 3 c3 22 rfl rfl)
  obtain ⟨s, rfl, -, -⟩ := openi (P := Try.prog) (k := .i64) (by kernel_rfl) (hval 2 3 v2 rfl rfl)
  have hk := Wid.tells_ok n x1 y1 x2 y2 s (Wid.i64_lo n0) (Wid.i64_hi n1) (Wid.isW_of a1 a2 a3 a4) (Wid.isW_of b1 b2 b3 b4) W
  refine hk.mono fun e W' ⟨he, hg⟩ => ?_
  subst he
  have hq : Rows.wideTellsSpec.fn H ([d0, d1, d2] ++ []) = { results := [.lit (.bool true)], args := [d0, d1, d2] } := rfl
  exact ⟨_, rfl, law_post (bt := 4) hW' rfl (by kernel_rfl) (by kernel_rfl) rfl (by kernel_rfl) hq hg⟩

theorem proved : Rows.WideTellsSaid :=
  OpenClaim.holds_of_wide 3 Try.f3 rfl rfl rfl rfl rfl rfl rfl ⟨rfl, rfl, rfl, rfl, rfl⟩ rfl rfl rfl rfl rfl (by kernel_rfl) Try.func3 (by kernel_rfl)
    (of_decide_eq_true (by kernel_rfl)) (by unfold Func.isWrapper; first | (rw [if_pos (by decide +kernel)]; kernel_rfl) | (rw [if_neg (by decide +kernel)]; exact ⟨rfl, rfl⟩))
    (fun os started H enc _ => lifted os started H enc)
end Go.Proofs.Ytjpklbifmnfemaa.lawWideTells
