/- A cache that is told the log of a store, in its order, has the objects of the store, and so has one that is told the snapshot; conditions: none. -/
import Derived.Test.YtbllkmhkpapgeaaFrame
import Derived.Test.YtbllkmhkpapgeaaStopen
import Derived.Test.YtbllkmhkpapgeaaStl
namespace Go.Proofs.Ytbllkmhkpapgeaa.lawStoreTold
open Go Go.ChangeShapes Go.WideShapes Go.ChangeAt Go.RowKit Sx
attribute [local irreducible] Go.Calls

theorem own : ownKnob Try.prog.godebug = none := by kernel_rfl

set_option maxRecDepth 100000 in
theorem lifted (os : Os) (started : os.Started) (H : Type) (enc : TypeId × Value → H) :
    ReturnsInHanded {} Try.checked os 5 .any (Rows.storeToldSpec.pre6 enc Try.prog Try.f5 Rows.storeToldRow.domain false) (Rows.storeToldSpec.post enc Try.prog Try.f5 false true false false) := by
  refine returnsInHanded_of_change (C := Try.checked) own started (by kernel_rfl) Try.func5
    (ChangeSpec.witness6 (enc := enc) (C := Try.checked) false ⟨#[], #[.slice none 0 0, .int .u8 0], []⟩ 8 (by kernel_rfl) (by kernel_rfl) (by kernel_rfl) (by kernel_rfl)) ?_
  intro W base args ds gs before hval0 hW _ _
  have hval : ∀ (j : Nat) t v, Try.f5.params[j]? = some t → args[j]? = some v → Value.okWide Try.prog W .any base t v := hval0
  have hW' := hW
  obtain ⟨p, q, hA0, hV, rfl, hfz, hnd⟩ := hW
  have hA : DataW.TrodAll enc Try.prog W 0 (fun _ => true) true Try.f5.params.toList args.toList ds p := hA0
  rw [Try.params5] at hA hval
  obtain ⟨v0, v1, d0, d1, p0, p1, rfl, rfl, rfl, h0, h1⟩ := trodAll_two hA
  obtain ⟨rfl, rfl⟩ := trodVars_none hV
  obtain ⟨ws, hv, hn⟩ := Stm.open_writes (hval 0 22 v0 rfl rfl) h0
  obtain ⟨pt, rfl, q0, q1⟩ := openi (P := Try.prog) (k := .u8) (by kernel_rfl) (hval 1 5 v1 rfl rfl)
  have hk := Stm.told_ok v0 ws pt q0 (Int.lt_add_one_of_le q1) hn W hv
  refine hk.mono fun e W' ⟨he, hg⟩ => ?_
  subst he
  have hq : Rows.storeToldSpec.fn H ([d0, d1] ++ []) = { results := [.lit (.bool true)], args := [d0, d1] } := rfl
  exact ⟨_, rfl, law_post (bt := 4) hW' rfl (by kernel_rfl) (by kernel_rfl) rfl (by kernel_rfl) hq hg⟩

theorem proved : Rows.StoreToldSaid :=
  OpenClaim.holds_of_wide 5 Try.f5 rfl rfl rfl rfl rfl rfl rfl ⟨rfl, rfl, rfl, rfl, rfl⟩ rfl rfl rfl rfl rfl (by kernel_rfl) Try.func5 (by kernel_rfl)
    (of_decide_eq_true (by kernel_rfl)) (by unfold Func.isWrapper; first | (rw [if_pos (by decide +kernel)]; kernel_rfl) | (rw [if_neg (by decide +kernel)]; exact ⟨rfl, rfl⟩))
    (fun os started H enc _ => lifted os started H enc)
end Go.Proofs.Ytbllkmhkpapgeaa.lawStoreTold
