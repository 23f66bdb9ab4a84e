/- Whether any scope may be, whether it matches any object, whether any term holds of it, the scopes text, and whether it is the same as any other one, are as the document says; conditions: the package-level tables as the program lays them, tied to its text. -/
import Derived.Test.YtlokhemlpmalaaaDoorSlaid
import Derived.Test.YtlokhemlpmalaaaDoorScpo
import Derived.Test.YtlokhemlpmalaaaDoorOopen
import Derived.Test.YtlokhemlpmalaaaDoorScpa
import Derived.Test.YtlokhemlpmalaaaDoorTie
import Derived.Test.YtlokhemlpmalaaaDoorCards
import Derived.SevenTiedAt
import Derived.LaidMore
import Derived.Lay
import Derived.Stop.Joined
namespace Go.Proofs.YtlokhemlpmalaaaDoor.lawScopeTells
open Go Go.ChangeShapes Go.WideShapes Go.ChangeAt Go.RowKit Sx
attribute [local irreducible] Go.Calls

set_option maxRecDepth 100000 in
theorem lifted (os : Os) (started : os.Started) (H : Type) (enc : TypeId × Value → H) :
    ReturnsInHanded {} Tryd.checked os 3 .any (fun w args => (Rows.scopeTellsSpec.pre enc Tryd.prog Tryd.f3 [] false w args ∧ laidMetH Tryd.prog Rows.scopeTellsRow.laid w) ∧ sizedMet enc Tryd.prog Tryd.f3 (OpenSpec.ofChange Rows.scopeTellsSpec) false w args)
      (Rows.scopeTellsSpec.post enc Tryd.prog Tryd.f3 false true false false) := by
  refine returnsInHanded_of_change_and (C := Tryd.checked) (X := fun w _ => laidMetH Tryd.prog Rows.scopeTellsRow.laid w) (fun _ _ _ hh h => h.of_heap hh) Qty.own started (by kernel_rfl) Tryd.func3
    (ChangeSpec.witness_shaped (enc := enc) (C := Tryd.checked) (os := os) (X := fun w _ => laidMetH Tryd.prog Rows.scopeTellsRow.laid w) false (World.laidAll Tryd.prog os Rows.scopeTellsRow.laid) #[.agg #[.slice none 0 0, .slice none 0 0], .agg #[.int .i64 0, .slice none 0 0], .agg #[.string ⟨#[]⟩, .string ⟨#[]⟩, .string ⟨#[]⟩, .int .i64 0, .string ⟨#[]⟩, .bool false, .bool false, .slice none 0 0]] 8 (World.laidAll_os _ _ _) (World.shaped_of_ZipB (by kernel_rfl) (by kernel_rfl)) (by kernel_rfl) (by kernel_rfl) (by kernel_rfl) (Qty.door_met os _)) ?_
  intro W base args ds gs before hval0 hW _ _ hL _
  have hval : ∀ (j : Nat) t v, Tryd.f3.params[j]? = some t → args[j]? = some v → Value.okWide Tryd.prog W .any base t v := hval0
  have hW' := hW
  obtain ⟨p, q, hA0, hV, rfl, hfz, hnd⟩ := hW
  have hA : DataW.TrodAll enc Tryd.prog W 0 (fun _ => true) true Tryd.f3.params.toList args.toList ds p := hA0
  rw [Tryd.params3] at hA hval
  obtain ⟨v0, v1, v2, d0, d1, d2, p0, p1, p2, rfl, rfl, rfl, h0, h1, h2⟩ := trodAll_three hA
  obtain ⟨rfl, rfl⟩ := trodVars_none hV
  have hG := Qty.gl_of_laid hL
  obtain ⟨va, vb, ps, qs, rfl, hva, hvb, hcp⟩ := Scp.open_two (hval 0 24 v0 rfl rfl) h0
  obtain ⟨op, u, vs, rfl, hu, hop⟩ := Scp.open_trm1 (hval 1 28 v1 rfl rfl) h1
  obtain ⟨o, ov, rfl, ho, -⟩ := Ojt.open_obj (hval 2 33 v2 rfl rfl) h2
  have hk := Scp.tells_ok va vb u ov ps qs op vs o hcp W hG hva hvb hu ho
  refine hk.mono fun e W' ⟨he, hg⟩ => ?_
  subst he
  have hq : Rows.scopeTellsSpec.fn H ([d0, d1, d2] ++ []) = { results := [.lit (.bool true)], args := [d0, d1, d2] } := rfl
  exact ⟨_, rfl, law_post (bt := 4) hW' rfl (by kernel_rfl) (by kernel_rfl) rfl (by kernel_rfl) hq hg⟩

theorem row_holds : Rows.ScopeTellsSaid :=
  OpenClaim.holds_of_wide 3 Tryd.f3 rfl rfl rfl rfl rfl rfl rfl ⟨rfl, rfl, rfl, rfl, rfl⟩ rfl rfl rfl rfl rfl (by kernel_rfl) Tryd.func3 (by kernel_rfl)
    (of_decide_eq_true (by kernel_rfl)) (by unfold Func.isWrapper; first | (rw [if_pos (by decide +kernel)]; kernel_rfl) | (rw [if_neg (by decide +kernel)]; exact ⟨rfl, rfl⟩))
    (fun os started H enc _ => lifted os started H enc)

theorem proved : Rows.ScopeTellsCardSaid :=
  Claim7.holds_tied_plain_at .later [] [.data, .data, .pinned] true (true, "d73f5371127f7282de2bff2c2a81179b284f06b4fc6c40d581a963ddb3d6d50c") false
    row_holds (fun _ h => by cases h) (by kernel_rfl) (fun _ h => by cases h) scopeTells_row_tie rfl ⟨rfl, rfl⟩ (by kernel_rfl) rfl
    (fun f fn hf hfn => by
      obtain rfl : f = 3 := Option.some.inj ((show Tryd.prog.funcNamed "scutage/scutagelaw06.ScopeTells" = some 3 by kernel_rfl).symm.trans hf) |>.symm
      obtain rfl : fn = Tryd.f3 := (Option.some.inj (Tryd.func3.symm.trans hfn)).symm
      exact ⟨by kernel_rfl, fun j t ht => by
        rw [Tryd.params3] at ht
        have hm : t ∈ [24, 28, 33] := by simpa using Array.mem_of_getElem? ht
        have hall : ([24, 28, 33].all fun u => !Tryd.prog.wantsStandIn u) = true := by kernel_rfl
        exact (show Tryd.prog.wantsStandIn t = false by simpa using List.all_eq_true.1 hall t hm)⟩)
    (by kernel_rfl)
end Go.Proofs.YtlokhemlpmalaaaDoor.lawScopeTells
