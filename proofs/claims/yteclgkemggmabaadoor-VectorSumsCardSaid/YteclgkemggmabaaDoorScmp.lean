/- Contract of strings.Compare: below, the same, above; conditions: none. -/
import Derived.Test.YteclgkemggmabaaDoorTy
import Derived.Test.YteclgkemggmabaaDoorBord
namespace Go.Proofs.YteclgkemggmabaaDoor
namespace Lab
open Go Go.RowKit Sx Bord
attribute [local irreducible] Go.Calls

theorem ov_cmps {E : Env} {t : Tm} {H : Hp} {ty : TypeId} {f : FuncId} {xs : List Operand} {ats : Array TypeId} {p q : List UInt8} [FnX Tryd.prog f Extern.BytealgCompare.compare] (hv : evL t xs = some [S p, S q]) :
    OpV Tryd.prog E (.call ⟨.value (.func f), xs.toArray, ats⟩) ty t H (I (Lib.compareBytes p q)) := ov_ext hv fun w => by
  have := Lib.run_compareString (P := Tryd.prog) ⟨p.toArray⟩ ⟨q.toArray⟩ w
  simpa using this
theorem bcmp_ok (a b : List UInt8) (w : World) : Calls Tryd.prog 62 #[S a, S b] w fun e w' => e = .returned (I (Lib.compareBytes a b)) ∧ Below w.heap.size w w' := by
  refine calls1 (args := [S a, S b]) Tryd.func62 rfl rfl rfl rfl ?_
  repeat' (first | refine ao_nil ?_ | refine aq_nil ?_ | ((first | apply ao_val | apply aq_val); exact wants_a; (first | exact ov_cmps rfl | exact ov_a); (exact rfl)) | refine zok ?_ | refine zqk ?_ | refine zon fun _ => ?_ | refine zow ?_ | refine zox ?_ | refine zoz ?_ | refine zoa fun vr lr hr => ?_ | (refine aw_is ?_; first | refine aw_seq ?_ | refine aw_block ?_ | refine aw_region ?_ | refine aw_skip ?_ | refine aw_exit ?_ | refine aw_ret ?_ | refine aw_label ?_ | refine aw_scope ?_ | refine zwt ?_ | refine zwf ?_ | refine zwd ?_) | refine zoT ?_ | refine zqT ?_ | refine zwT ?_ | refine zoF ?_ | refine zqF ?_ | refine zwF ?_ | refine zp ?_ | refine ib_exit ?_ | refine ib_other ?_ | refine zr1 ?_ | refine zr2 ?_ | refine zr3 ?_ | refine zrt ?_ | refine zrc ?_ | refine zrd ?_ | refine zoS (fun _ => ?_) (fun _ => ?_) | refine zqS (fun _ => ?_) (fun _ => ?_) | refine zwS (fun _ => ?_) (fun _ => ?_))
  exact fun w' hw => ⟨rfl, hw.below⟩
theorem scmp_ok (a b : List UInt8) (w : World) : Calls Tryd.prog 36 #[S a, S b] w fun e w' => e = .returned (I (Lib.compareBytes a b)) ∧ Below w.heap.size w w' := by
  refine calls1 (args := [S a, S b]) Tryd.func36 rfl rfl rfl rfl ?_
  repeat' (first | refine ao_nil ?_ | refine aq_nil ?_ | refine zov ?_ | refine zqv ?_ | refine zok ?_ | refine zqk ?_ | refine zon fun _ => ?_ | refine zow ?_ | refine zox ?_ | refine zoz ?_ | refine zoa fun vr lr hr => ?_ | ((first | apply ao_call | apply aq_call); exact wants_a; (first | exact oc_func rfl | exact oc_clos rfl rfl); (exact rfl); (first | exact fun w hw => bcmp_ok a b w)) | (refine aw_is ?_; first | refine aw_seq ?_ | refine aw_block ?_ | refine aw_region ?_ | refine aw_skip ?_ | refine aw_exit ?_ | refine aw_ret ?_ | refine aw_label ?_ | refine aw_scope ?_ | refine zwt ?_ | refine zwf ?_ | refine zwd ?_) | refine zoT ?_ | refine zqT ?_ | refine zwT ?_ | refine zoF ?_ | refine zqF ?_ | refine zwF ?_ | refine zp ?_ | refine ib_exit ?_ | refine ib_other ?_ | refine zr1 ?_ | refine zr2 ?_ | refine zr3 ?_ | refine zrt ?_ | refine zrc ?_ | refine zrd ?_ | refine zoS (fun _ => ?_) (fun _ => ?_) | refine zqS (fun _ => ?_) (fun _ => ?_) | refine zwS (fun _ => ?_) (fun _ => ?_))
  exact fun w' hw => ⟨rfl, hw.below⟩
/-- What it says of texts in order. -/
theorem cmpB (a b : List UInt8) : Lib.compareBytes a b = if Op.bytesLess a b then -1 else if Op.bytesLess b a then 1 else 0 := by
  induction a generalizing b with
  | nil => cases b <;> simp [Lib.compareBytes, Op.bytesLess]
  | cons x a ih =>
    cases b with
    | nil => simp [Lib.compareBytes, Op.bytesLess]
    | cons y b =>
      unfold Lib.compareBytes Op.bytesLess
      rw [ih]
      by_cases h1 : x < y
      · simp [h1]
      · by_cases h2 : y < x
        · have h3 : ¬ x = y := by rintro rfl; exact h1 h2
          have h4 : ¬ y = x := fun h => h3 h.symm
          simp [h1, h2, h3]
        · have h3 : x = y := UInt8.le_antisymm (UInt8.not_lt.1 h2) (UInt8.not_lt.1 h1)
          subst h3
          simp [h1]
end Lab
end Go.Proofs.YteclgkemggmabaaDoor
