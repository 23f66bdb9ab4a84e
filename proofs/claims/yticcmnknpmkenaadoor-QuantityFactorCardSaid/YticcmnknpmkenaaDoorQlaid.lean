/- From a row's condition on the package-level tables to what the walks of layer 3 ask; the start of the program meets it; conditions: none. -/
import Derived.Test.YticcmnknpmkenaaDoorFrame
import Derived.Test.YticcmnknpmkenaaDoorQprog
import Derived.LaidMore
import Derived.Stop.Joined
namespace Go.Proofs.YticcmnknpmkenaaDoor
namespace Qty
open Go Go.RowKit Sx

theorem own : ownKnob Tryd.prog.godebug = none := by kernel_rfl

theorem gl_of_laid {W : World} (h : laidMetH Tryd.prog Rows.quantityTellsRow.laid W) : Gl W := by
  rw [MakeChecks.laidMetH_plain _ _ _ (by kernel_rfl)] at h
  obtain ⟨ps, hl, -, -⟩ := h
  have h1 := glob_of_laid (P := Tryd.prog) (n := "scutage/quantity.scales") (d := Rows.laid_scutage_quantity_scales) (g := 0) (t := 39) (f := 4) (xs := scV) (by kernel_rfl) (by kernel_rfl) (by kernel_rfl) hl (.tail _ (.tail _ (.tail _ (.head _))))
  have h2 := glob_of_laid (P := Tryd.prog) (n := "internal/strconv.uint64pow10") (d := Rows.laid_internal_strconv_uint64pow10) (g := 1) (t := 50) (f := 4) (xs := Lib.pow10Tab.map fun z => Value.int .u64 z) (by kernel_rfl) (by kernel_rfl) (by kernel_rfl) hl (.tail _ (.tail _ (.head _)))
  exact ⟨h1.2 (by decide), h2.1, (h2.2 (by decide)).1⟩

/-- The heap that the program starts from meets the condition. -/
theorem door_met (os : Os) (args : Array Value) : laidMetH Tryd.prog Rows.quantityTellsRow.laid ((World.doorLaid Tryd.prog 400 os).forCall (fun _ _ => 0) ⟨#[], args, []⟩).memory :=
  laidMetH_of_parts3 (fuel := 8) (laidMet_of_run' 8 (by kernel_rfl) (by kernel_rfl)) (by kernel_rfl) (by kernel_rfl)
end Qty
end Go.Proofs.YticcmnknpmkenaaDoor
