/- Contracts of the document's answer for layer 1; conditions: parts of at most 1000 bytes. -/
import Derived.Test.YtlokhemlpmalaaaDoorLabk
namespace Go.Proofs.YtlokhemlpmalaaaDoor
namespace Lab
open Go Go.RowKit Sx
attribute [local irreducible] Go.Calls

theorem byte_ne (c d : UInt8) : ((c.toNat : Int) != (d.toNat : Int)) = (some c != some d) := by
  rw [Bool.eq_iff_iff]
  simp only [bne_iff_ne, ne_eq, Option.some.injEq]
  constructor
  · rintro h rfl; exact h rfl
  · intro h e; exact h (UInt8.toNat.inj (by omega))
theorem rightB_end {l : List UInt8} {c0 c1 : UInt8} (hall : l.all (fun c => alw c.toNat) = true) (h0 : l[0]? = some c0) (hL : l[l.length - 1]? = some c1) (h1 : 1 ≤ l.length) (h2 : l.length ≤ 24) :
    rightB l = (((c0.toNat : Int) != 45) && ((c1.toNat : Int) != 45)) := by
  have e0 := byte_ne c0 45
  have e1 := byte_ne c1 45
  simp only [UInt8.reduceToNat] at e0 e1
  have e0' : ((c0.toNat : Int) != 45) = (some c0 != some 45) := e0
  have e1' : ((c1.toNat : Int) != 45) = (some c1 != some 45) := e1
  simp only [rightB, hall, h0, hL, e0', e1', h1, h2, decide_true, Bool.true_and]



set_option maxHeartbeats 400000 in
theorem rright_ok (l : List UInt8) (hl : l.length ≤ 1000000) (w : World) : Calls Tryd.prog 34 #[S l] w fun e w' => e = .returned (.bool (rightB l)) ∧ Below w.heap.size w w' := by
  by_cases h1 : l.length < 1
  · refine calls1 (args := [S l]) Tryd.func34 rfl rfl rfl rfl ?_
    repeat' (first | refine aw_seq ?_ | refine zz ?_ | refine zon fun _ => ?_ | refine zoa fun vr lr hr => ?_ | refine zoS (fun _ => ?_) (fun _ => ?_) | refine zqS (fun _ => ?_) (fun _ => ?_) | refine zwS (fun _ => ?_) (fun _ => ?_))
    all_goals exact ret_bool (by simp [rightB]; omega)
  by_cases h2 : 24 < l.length
  · refine calls1 (args := [S l]) Tryd.func34 rfl rfl rfl rfl ?_
    repeat' (first | refine aw_seq ?_ | refine zz ?_ | refine zon fun _ => ?_ | refine zoa fun vr lr hr => ?_ | refine zoS (fun _ => ?_) (fun _ => ?_) | refine zqS (fun _ => ?_) (fun _ => ?_) | refine zwS (fun _ => ?_) (fun _ => ?_))
    all_goals exact ret_bool (by simp [rightB]; omega)
  obtain ⟨c0, h0⟩ : ∃ c, l[0]? = some c := ⟨l[0]'(by omega), by simp⟩
  obtain ⟨c1, hL⟩ : ∃ c, l[l.length - 1]? = some c := ⟨l[l.length - 1], by simp⟩
  refine calls1 (args := [S l]) Tryd.func34 rfl rfl rfl rfl ?_
  repeat' (first | refine aw_seq ?_ | refine zz ?_ | refine zon fun _ => ?_ | refine zoa fun vr lr hr => ?_ | refine zoS (fun _ => ?_) (fun _ => ?_) | refine zqS (fun _ => ?_) (fun _ => ?_) | refine zwS (fun _ => ?_) (fun _ => ?_))
  refine aw_for (t0 := [(0, S l), (3, I l.length), (4, I (0 : Nat))]) (fun m t H => ∃ k : Nat, m = l.length - k ∧ k ≤ l.length ∧ okTo l k ∧ t = [(0, S l), (3, I l.length), (4, I k)] ∧ H = []) ⟨0, rfl, by omega, okTo_zero l, rfl, rfl⟩ (by repeat (first | exact sub_nil | refine sub_cons rfl ?_)) ?_
  rintro m t H ⟨k, rfl, hk0, hok, rfl, rfl⟩
  by_cases hk : k < l.length
  · have hg : l[k]? = some l[k] := by simp [hk]
    generalize l[k] = c at hg
    have hc := c.toNat_lt
    cases ha : alw c.toNat
    · repeat' (first | refine aw_cut_at (id := 8) ([(0, S l), (3, I l.length), (4, I k), (40, .bool true)]) ?_ ?_ | refine aw_seq ?_ | ((first | apply ao_val | apply aq_val); exact wants_a; (first | exact ov_sindex rfl rfl hg (by omega) | exact ov_a); (exact rfl)) | refine zy ?_ | refine zon fun _ => ?_ | refine zoa fun vr lr hr => ?_ | refine zoS (fun _ => ?_) (fun _ => ?_) | refine zqS (fun _ => ?_) (fun _ => ?_) | refine zwS (fun _ => ?_) (fun _ => ?_))
      all_goals first | exact ret_bool (right_false_of hg ha).symm | (simp only [alw] at ha; exact cq_normal (sub_cons rfl (sub_cons rfl (sub_cons rfl (sub_cons' rfl (by simp_all <;> omega) sub_nil)))))
    · repeat' (first | refine aw_cut_at (id := 8) ([(0, S l), (3, I l.length), (4, I k), (40, .bool false)]) ?_ ?_ | refine aw_seq ?_ | ((first | apply ao_val | apply aq_val); exact wants_a; (first | exact ov_sindex rfl rfl hg (by omega) | exact ov_a); (exact rfl)) | refine zy ?_ | refine zon fun _ => ?_ | refine zoa fun vr lr hr => ?_ | refine zoS (fun _ => ?_) (fun _ => ?_) | refine zqS (fun _ => ?_) (fun _ => ?_) | refine zwS (fun _ => ?_) (fun _ => ?_))
      all_goals first | exact lq_normal ⟨k + 1, rfl, by omega, okTo_succ hok hg ha, rfl, rfl⟩ (by omega) (by repeat (first | exact sub_nil | refine sub_cons rfl ?_)) | (simp only [alw] at ha; exact cq_normal (sub_cons rfl (sub_cons rfl (sub_cons rfl (sub_cons' rfl (by simp_all <;> omega) sub_nil)))))
  · have hall := okTo_all hok (by omega)
    repeat' (first | refine aw_seq ?_ | ((first | apply ao_val | apply aq_val); exact wants_a; (first | exact ov_sindex rfl rfl h0 (by omega) | exact ov_sindex rfl rfl hL (by omega) | exact ov_a); (exact rfl)) | refine zy ?_ | refine zon fun _ => ?_ | refine zoa fun vr lr hr => ?_ | refine zoS (fun _ => ?_) (fun _ => ?_) | refine zqS (fun _ => ?_) (fun _ => ?_) | refine zwS (fun _ => ?_) (fun _ => ?_))
    · have h : ((c0.toNat : Int) != 45) = true := by assumption
      exact ret_bool (by rw [rightB_end hall h0 hL (by omega) (by omega), h]; rfl)
    · have h : ((c0.toNat : Int) != 45) = false := by assumption
      exact ret_bool (by rw [rightB_end hall h0 hL (by omega) (by omega), h]; rfl)
end Lab
end Go.Proofs.YtlokhemlpmalaaaDoor
