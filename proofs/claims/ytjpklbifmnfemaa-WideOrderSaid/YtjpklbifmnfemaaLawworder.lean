/- In order: Compare of any three wide numbers is an order; of two it is 0 just if they are one; sums with a third keep it, and so do differences; numbers that fit are in the order that they have, and come back from Of; one that fits has a text of at most 20 bytes; conditions: none. -/
import Derived.Test.YtjpklbifmnfemaaFrame
import Derived.Test.YtjpklbifmnfemaaWlawo
namespace Go.Proofs.Ytjpklbifmnfemaa.lawWideOrder
open Go Go.ChangeShapes Go.WideShapes Go.ChangeAt Go.RowKit Sx
attribute [local irreducible] Go.Calls

theorem own : ownKnob Try.prog.godebug = none := by kernel_rfl

set_option maxRecDepth 100000 in
theorem lifted (os : Os) (started : os.Started) (H : Type) (enc : TypeId × Value → H) :
    ReturnsInHanded {} Try.checked os 5 .any (Rows.wideOrderSpec.pre6 enc Try.prog Try.f5 Rows.wideOrderRow.domain false) (Rows.wideOrderSpec.post enc Try.prog Try.f5 false true false false) := by
  refine returnsInHanded_of_change (C := Try.checked) own started (by kernel_rfl) Try.func5
    (ChangeSpec.witness6 (enc := enc) (C := Try.checked) false ⟨#[], #[.agg #[.int .i64 0, .int .u64 0, .int .i64 0, .int .u64 0, .int .i64 0, .int .u64 0], .int .i64 0, .int .i64 0], []⟩ 8 (by kernel_rfl) (by kernel_rfl) (by kernel_rfl) (by kernel_rfl)) ?_
  intro W base args ds gs before hval0 hW _ _
  have hval : ∀ (j : Nat) t v, Try.f5.params[j]? = some t → args[j]? = some v → Value.okWide Try.prog W .any base t v := hval0
  have hW' := hW
  obtain ⟨p, q, hA0, hV, rfl, hfz, hnd⟩ := hW
  have hA : DataW.TrodAll enc Try.prog W 0 (fun _ => true) true Try.f5.params.toList args.toList ds p := hA0
  rw [Try.params5] at hA hval
  obtain ⟨v0, v1, v2, d0, d1, d2, p0, p1, p2, rfl, rfl, rfl, h0, h1, h2⟩ := trodAll_three hA
  obtain ⟨rfl, rfl⟩ := trodVars_none hV
  obtain ⟨cs, rfl, hl, hall⟩ := open_cells (P := Try.prog) (ts := [2, 22, 2, 22, 2, 22]) (by kernel_rfl) (by kernel_rfl) (by kernel_rfl) (by kernel_rfl) (hval 0 38 v0 rfl rfl)
  obtain ⟨c0, c1, c2, c3, c4, c5, rfl⟩ := len6 hl
  obtain ⟨x1, rfl, a1, a2⟩ := cell_int (k := .i64) (by kernel_rfl) (hall 0 c0 2 rfl rfl)
  obtain ⟨y1, rfl, a3, a4⟩ := cell_int (k := .u64) (by kernel_rfl) (hall 1 c1 22 rfl rfl)
  obtain ⟨x2, rfl, b1, b2⟩ := cell_int (k := .i64) (by kernel_rfl) (hall 2 c2 2 rfl rfl)
  obtain ⟨y2, rfl, b3, b4⟩ := cell_int (k := .u64) (by kernel_rfl) (hall 3 c3 22 rfl rfl)
  obtain ⟨x3, rfl, f1, f2⟩ := cell_int (k := .i64) (by kernel_rfl) (hall 4 c4 2 rfl rfl)
  obtain ⟨y3, rfl, f3, f4⟩ := cell_int (k := .u64) (by kernel_rfl) (hall 5 c5 22 rfl rfl)
  obtain ⟨n, rfl, n0, n1⟩ := openi (P := Try.prog) (k := .i64) (by kernel_rfl) (hval 1 2 v1 rfl rfl)
  obtain ⟨m, rfl, m0, m1⟩ := openi (P := Try.prog) (k := .i64) (by kernel_rfl) (hval 2 2 v2 rfl rfl)
  have hW3 : ∀ i, i < 3 → Wid.isW ((fun i => if i = 0 then x1 else if i = 1 then x2 else x3) i) ((fun i => if i = 0 then y1 else if i = 1 then y2 else y3) i) := fun i hi => by
    match i, hi with
    | 0, _ => exact Wid.isW_of a1 a2 a3 a4
    | 1, _ => exact Wid.isW_of b1 b2 b3 b4
    | 2, _ => exact Wid.isW_of f1 f2 f3 f4
  have hk := Wid.order_ok (fun i => if i = 0 then x1 else if i = 1 then x2 else x3) (fun i => if i = 0 then y1 else if i = 1 then y2 else y3) n m hW3 (Wid.i64_lo n0) (Wid.i64_hi n1) (Wid.i64_lo m0) (Wid.i64_hi m1) W
  refine hk.mono fun e W' ⟨he, hg⟩ => ?_
  subst he
  have hq : Rows.wideOrderSpec.fn H ([d0, d1, d2] ++ []) = { results := [.lit (.bool true)], args := [d0, d1, d2] } := rfl
  exact ⟨_, rfl, law_post (bt := 4) hW' rfl (by kernel_rfl) (by kernel_rfl) rfl (by kernel_rfl) hq hg⟩

theorem proved : Rows.WideOrderSaid :=
  OpenClaim.holds_of_wide 5 Try.f5 rfl rfl rfl rfl rfl rfl rfl ⟨rfl, rfl, rfl, rfl, rfl⟩ rfl rfl rfl rfl rfl (by kernel_rfl) Try.func5 (by kernel_rfl)
    (of_decide_eq_true (by kernel_rfl)) (by unfold Func.isWrapper; first | (rw [if_pos (by decide +kernel)]; kernel_rfl) | (rw [if_neg (by decide +kernel)]; exact ⟨rfl, rfl⟩))
    (fun os started H enc _ => lifted os started H enc)
end Go.Proofs.Ytjpklbifmnfemaa.lawWideOrder
