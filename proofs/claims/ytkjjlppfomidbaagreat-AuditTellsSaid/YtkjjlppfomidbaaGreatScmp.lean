/- Contract of strings.Compare: below, the same, above; conditions: none. -/
import Derived.Test.YtkjjlppfomidbaaGreatTy
import Derived.Test.YtkjjlppfomidbaaGreatBord
namespace Go.Proofs.YtkjjlppfomidbaaGreat
namespace Lab
open Go Go.RowKit Sx Bord
attribute [local irreducible] Go.Calls
theorem ov_cmps {E : Env} {t : Tm} {H : Hp} {ty : TypeId} {f : FuncId} {xs : List Operand} {ats : Array TypeId} {p q : List UInt8} [FnX Tryz.prog f Extern.BytealgCompare.compare] (hv : evL t xs = some [S p, S q]) :
    OpV Tryz.prog E (.call ⟨.value (.func f), xs.toArray, ats⟩) ty t H (I (Lib.compareBytes p q)) := ov_ext hv fun w => by
  have := Lib.run_compareString (P := Tryz.prog) ⟨p.toArray⟩ ⟨q.toArray⟩ w
  simpa using this
theorem bcmp_ok (a b : List UInt8) (w : World) : Calls Tryz.prog 177 #[S a, S b] w fun e w' => e = .returned (I (Lib.compareBytes a b)) ∧ Below w.heap.size w w' := by
  refine calls1 (args := [S a, S b]) Tryz.func177 rfl rfl rfl rfl ?_
  repeat' (first | refine aw_seq ?_ | ((first | apply ao_val | apply aq_val); exact wants_a; (first | exact ov_cmps rfl | exact ov_a); (exact rfl)) | refine zy ?_ | refine zon fun _ => ?_ | refine zoa fun vr lr hr => ?_ | refine zoS (fun _ => ?_) (fun _ => ?_) | refine zqS (fun _ => ?_) (fun _ => ?_) | refine zwS (fun _ => ?_) (fun _ => ?_))
  exact fun w' hw => ⟨rfl, hw.below⟩
theorem scmp_ok (a b : List UInt8) (w : World) : Calls Tryz.prog 165 #[S a, S b] w fun e w' => e = .returned (I (Lib.compareBytes a b)) ∧ Below w.heap.size w w' := by
  refine calls1 (args := [S a, S b]) Tryz.func165 rfl rfl rfl rfl ?_
  repeat' (first | refine aw_seq ?_ | refine zz ?_ | refine zon fun _ => ?_ | refine zoa fun vr lr hr => ?_ | ((first | apply ao_call | apply aq_call); exact wants_a; (first | exact oc_func rfl | exact oc_clos rfl rfl | exact oc_bnd rfl rfl); (exact rfl); (first | exact fun w hw => bcmp_ok a b w)) | refine zoS (fun _ => ?_) (fun _ => ?_) | refine zqS (fun _ => ?_) (fun _ => ?_) | refine zwS (fun _ => ?_) (fun _ => ?_))
  exact fun w' hw => ⟨rfl, hw.below⟩
theorem cmpB (a b : List UInt8) : Lib.compareBytes a b = if Op.bytesLess a b then -1 else if Op.bytesLess b a then 1 else 0 := by
  induction a generalizing b with
  | nil => cases b <;> simp [Lib.compareBytes, Op.bytesLess]
  | cons x a ih =>
    cases b with
    | nil => simp [Lib.compareBytes, Op.bytesLess]
    | cons y b =>
      unfold Lib.compareBytes Op.bytesLess
      rw [ih]
      by_cases h1 : x < y
      · simp [h1]
      · by_cases h2 : y < x
        · have h3 : ¬ x = y := by rintro rfl; exact h1 h2
          have h4 : ¬ y = x := fun h => h3 h.symm
          simp [h1, h2, h3]
        · have h3 : x = y := UInt8.le_antisymm (UInt8.not_lt.1 h2) (UInt8.not_lt.1 h1)
          subst h3
          simp [h1]
end Lab
end Go.Proofs.YtkjjlppfomidbaaGreat
