/- Any number up to 2^20, with any suffix, is that number times the factor of the suffix; the factors of suffixes with an i are powers of two, of the others powers of ten; conditions: the package-level tables as the program lays them, tied to its text. -/
import Derived.Test.YticcmnknpmkenaaDoorQlaid
import Derived.Test.YticcmnknpmkenaaDoorQlawf
import Derived.Test.YticcmnknpmkenaaDoorTie
import Derived.Test.YticcmnknpmkenaaDoorCards
import Derived.SevenTiedAt
import Derived.LaidMore
import Derived.Stop.Joined
namespace Go.Proofs.YticcmnknpmkenaaDoor.lawQuantityFactor
open Go Go.ChangeShapes Go.WideShapes Go.ChangeAt Go.RowKit Sx
attribute [local irreducible] Go.Calls

set_option maxRecDepth 100000 in
theorem lifted (os : Os) (started : os.Started) (H : Type) (enc : TypeId × Value → H) :
    ReturnsInHanded {} Tryd.checked os 5 .any (fun w args => (Rows.quantityFactorSpec.pre enc Tryd.prog Tryd.f5 [] false w args ∧ laidMetH Tryd.prog Rows.quantityFactorRow.laid w) ∧ sizedMet enc Tryd.prog Tryd.f5 (OpenSpec.ofChange Rows.quantityFactorSpec) false w args)
      (Rows.quantityFactorSpec.post enc Tryd.prog Tryd.f5 false true false false) := by
  refine returnsInHanded_of_change_and (C := Tryd.checked) (X := fun w _ => laidMetH Tryd.prog Rows.quantityFactorRow.laid w) (fun _ _ _ hh h => h.of_heap hh) Qty.own started (by kernel_rfl) Tryd.func5
    (ChangeSpec.witness_shaped (enc := enc) (C := Tryd.checked) (os := os) (X := fun w _ => laidMetH Tryd.prog Rows.quantityFactorRow.laid w) false (World.doorLaid Tryd.prog 400 os) #[.int .u32 0] 8 rfl (World.shaped_of_RefB (by kernel_rfl) (by kernel_rfl)) (by kernel_rfl) (by kernel_rfl) (by kernel_rfl) (Qty.door_met os _)) ?_
  intro W base args ds gs before hval0 hW _ _ hL _
  have hval : ∀ (j : Nat) t v, Tryd.f5.params[j]? = some t → args[j]? = some v → Value.okWide Tryd.prog W .any base t v := hval0
  have hW' := hW
  obtain ⟨p, q, hA0, hV, rfl, hfz, hnd⟩ := hW
  have hA : DataW.TrodAll enc Tryd.prog W 0 (fun _ => true) true Tryd.f5.params.toList args.toList ds p := hA0
  rw [Tryd.params5] at hA hval
  obtain ⟨v0, d0, rfl, rfl, h0⟩ := trodAll_one hA
  obtain ⟨rfl, rfl⟩ := trodVars_none hV
  have hG := Qty.gl_of_laid hL
  obtain ⟨n, rfl, n0, n1⟩ := openi (P := Tryd.prog) (k := .u32) (by kernel_rfl) (hval 0 30 v0 rfl rfl)
  have hk := Qty.factor_ok n n0 (Int.lt_of_le_of_lt n1 (by decide)) W hG
  refine hk.mono fun e W' ⟨he, hg⟩ => ?_
  subst he
  have hq : Rows.quantityFactorSpec.fn H ([d0] ++ []) = { results := [.lit (.bool true)], args := [d0] } := rfl
  exact ⟨_, rfl, law_post (bt := 4) hW' rfl (by kernel_rfl) (by kernel_rfl) rfl (by kernel_rfl) hq hg⟩

theorem row_holds : Rows.QuantityFactorSaid :=
  OpenClaim.holds_of_wide 5 Tryd.f5 rfl rfl rfl rfl rfl rfl rfl ⟨rfl, rfl, rfl, rfl, rfl⟩ rfl rfl rfl rfl rfl (by kernel_rfl) Tryd.func5 (by kernel_rfl)
    (of_decide_eq_true (by kernel_rfl)) (by unfold Func.isWrapper; first | (rw [if_pos (by decide +kernel)]; kernel_rfl) | (rw [if_neg (by decide +kernel)]; exact ⟨rfl, rfl⟩))
    (fun os started H enc _ => lifted os started H enc)

theorem proved : Rows.QuantityFactorCardSaid :=
  Claim7.holds_tied_plain_at .later [] [.data, .data, .data, .data] true (true, "bbd5182d3ad4de8b9be65f3391b86ffdd708c0a336ab9385e3be1518019757ec") false
    row_holds (fun _ h => by cases h) (by kernel_rfl) (fun _ h => by cases h) quantityFactor_row_tie rfl ⟨rfl, rfl⟩ (by kernel_rfl) rfl
    (fun f fn hf hfn => by
      obtain rfl : f = 5 := Option.some.inj ((show Tryd.prog.funcNamed "scutage/scutagelaw03.QuantityFactor" = some 5 by kernel_rfl).symm.trans hf) |>.symm
      obtain rfl : fn = Tryd.f5 := (Option.some.inj (Tryd.func5.symm.trans hfn)).symm
      exact ⟨by kernel_rfl, fun j t ht => by
        rw [Tryd.params5] at ht
        have hm : t ∈ [30] := by simpa using Array.mem_of_getElem? ht
        have hall : ([30].all fun u => !Tryd.prog.wantsStandIn u) = true := by kernel_rfl
        exact (show Tryd.prog.wantsStandIn t = false by simpa using List.all_eq_true.1 hall t hm)⟩)
    (by kernel_rfl)
end Go.Proofs.YticcmnknpmkenaaDoor.lawQuantityFactor
