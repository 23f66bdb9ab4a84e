/- From a row's condition on the package-level tables to what the walks of layer 6 ask; conditions: none. -/
import Derived.Test.YtlokhemlpmalaaaDoorRows
import Derived.Test.YtlokhemlpmalaaaDoorFrame
import Derived.Test.YtlokhemlpmalaaaDoorScpg
import Derived.LaidMore
import Derived.Lay
import Derived.Stop.Joined
namespace Go.Proofs.YtlokhemlpmalaaaDoor
namespace Qty
open Go Go.RowKit Sx

theorem own : ownKnob Tryd.prog.godebug = none := by kernel_rfl
theorem gl_of_laid {W : World} (h : laidMetH Tryd.prog Rows.scopeTellsRow.laid W) : Scp.Glo W := by
  rw [MakeChecks.laidMetH_plain _ _ _ (by kernel_rfl)] at h
  obtain ⟨ps, hl, -, -⟩ := h
  have h1 := glob_of_laid (P := Tryd.prog) (n := "scutage/scope.words") (d := Rows.laid_scutage_scope_words) (g := 0) (t := 50) (f := 4) (xs := Scp.wordsV) (by kernel_rfl) (by kernel_rfl) (by kernel_rfl) hl (.tail _ (.head _))
  exact h1.2 (by decide)
/-- A heap in which the variables lie meets the condition. -/
theorem door_met (os : Os) (args : Array Value) : laidMetH Tryd.prog Rows.scopeTellsRow.laid ((World.laidAll Tryd.prog os Rows.scopeTellsRow.laid).forCall (fun _ _ => 0) ⟨#[], args, []⟩).memory := by
  rw [MakeChecks.laidMetH_plain _ _ _ (by kernel_rfl)]
  exact laidMet_laidAll _ (by kernel_rfl) (by kernel_rfl)
end Qty
end Go.Proofs.YtlokhemlpmalaaaDoor
