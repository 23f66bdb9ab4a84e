/- Contracts of the library functions that package label calls, at a separator of one byte; conditions: none. -/
import Derived.Test.YtlokhemlpmalaaaDoorTy
import Derived.Lib.Strings
namespace Go.Proofs.YtlokhemlpmalaaaDoor
namespace Lab
open Go Go.RowKit Sx
attribute [local irreducible] Go.Calls

theorem indexByte_range : ∀ (l : List UInt8) (c : UInt8), -1 ≤ Lib.indexByte l c ∧ Lib.indexByte l c < l.length
  | [], c => by simp [Lib.indexByte]
  | b :: l, c => by
    have := indexByte_range l c
    unfold Lib.indexByte
    simp only [List.length_cons]
    split
    · omega
    · split
      · omega
      · omega

set_option maxHeartbeats 400000 in
theorem stringslite_IndexByte_ok (l : List UInt8) (c : UInt8) (w : World) : Calls Tryd.prog 56 #[S l, .int .u8 c.toNat] w fun e w' => e = .returned (I (Lib.indexByte l c)) ∧ Below w.heap.size w w' := by
  refine calls1 (args := [S l, .int .u8 c.toNat]) Tryd.func56 rfl rfl rfl rfl ?_
  have hx : ∀ w : World, (Extern.BytealgIndexByte.indexByte #[S l, .int .u8 c.toNat]).run Tryd.prog w = .ok (I (Lib.indexByte l c)) w := fun w => by
    have := Lib.run_indexByteString (P := Tryd.prog) ⟨l.toArray⟩ c.toNat w
    simpa using this
  repeat' (first | refine aw_seq ?_ | ((first | apply ao_val | apply aq_val); exact wants_a; (first | exact ov_ext rfl hx | exact ov_a); (exact rfl)) | refine zy ?_ | refine zon fun _ => ?_ | refine zoa fun vr lr hr => ?_ | refine zoS (fun _ => ?_) (fun _ => ?_) | refine zqS (fun _ => ?_) (fun _ => ?_) | refine zwS (fun _ => ?_) (fun _ => ?_))
  exact fun w' hw => ⟨rfl, hw.below⟩

set_option maxHeartbeats 400000 in
theorem stringslite_Index_ok (l : List UInt8) (c : UInt8) (w : World) : Calls Tryd.prog 49 #[S l, S [c]] w fun e w' => e = .returned (I (Lib.indexByte l c)) ∧ Below w.heap.size w w' := by
  refine calls1 (args := [S l, S [c]]) Tryd.func49 rfl rfl rfl rfl ?_
  have hc : [c][0]? = some c := rfl
  have hn1 : ([c] : List UInt8).length = 1 := rfl
  repeat' (first | refine aw_seq ?_ | ((first | apply ao_val | apply aq_val); exact wants_a; (first | exact ov_sindex rfl rfl hc (by omega) | exact ov_a); (exact rfl)) | refine zy ?_ | refine zon fun _ => ?_ | refine zoa fun vr lr hr => ?_ | ((first | apply ao_call | apply aq_call); exact wants_a; (first | exact oc_func rfl | exact oc_clos rfl rfl); (exact rfl); (first | exact fun w hw => stringslite_IndexByte_ok _ _ w)) | refine zoS (fun _ => ?_) (fun _ => ?_) | refine zqS (fun _ => ?_) (fun _ => ?_) | refine zwS (fun _ => ?_) (fun _ => ?_))
  · have h : ([c] == l) = true := by assumption
    have h' : [c] = l := by simpa using h
    subst h'
    exact fun w' hw => ⟨by simp [Lib.indexByte], hw.below⟩
  · exact fun w' hw => ⟨rfl, hw.below⟩

/-- What strings.Cut hands back. -/
def cutV (l : List UInt8) (c : UInt8) : Value :=
  if 0 ≤ Lib.indexByte l c then .tuple #[S (l.take (Lib.indexByte l c).toNat), S (l.drop ((Lib.indexByte l c).toNat + 1)), .bool true] else .tuple #[S l, S [], .bool false]

set_option maxHeartbeats 400000 in
theorem stringslite_Cut_ok (l : List UInt8) (c : UInt8) (hl : l.length ≤ 1000000) (w : World) : Calls Tryd.prog 41 #[S l, S [c]] w fun e w' => e = .returned (cutV l c) ∧ Below w.heap.size w w' := by
  have hr := indexByte_range l c
  refine calls3 (args := [S l, S [c]]) Tryd.func41 rfl rfl rfl rfl ?_
  have hn1 : ([c] : List UInt8).length = 1 := rfl
  by_cases h0 : 0 ≤ Lib.indexByte l c
  · obtain ⟨i, hi⟩ := Int.eq_ofNat_of_zero_le h0
    repeat' (first | refine aw_seq ?_ | ((first | apply ao_val | apply aq_val); exact wants_a; (first | exact ov_sslice_hi rfl rfl hi (by omega) | exact ov_sslice_lo (i := i + 1) rfl rfl (by simp; omega) (by omega) | exact ov_a); (exact rfl)) | refine zy ?_ | refine zon fun _ => ?_ | refine zoa fun vr lr hr => ?_ | ((first | apply ao_call | apply aq_call); exact wants_a; (first | exact oc_func rfl | exact oc_clos rfl rfl); (exact rfl); (first | exact fun w hw => stringslite_Index_ok _ _ w)) | refine zoS (fun _ => ?_) (fun _ => ?_) | refine zqS (fun _ => ?_) (fun _ => ?_) | refine zwS (fun _ => ?_) (fun _ => ?_))
    exact fun w' hw => ⟨by rw [cutV, if_pos h0, hi]; rfl, hw.below⟩
  · repeat' (first | refine aw_seq ?_ | refine zz ?_ | refine zon fun _ => ?_ | refine zoa fun vr lr hr => ?_ | ((first | apply ao_call | apply aq_call); exact wants_a; (first | exact oc_func rfl | exact oc_clos rfl rfl); (exact rfl); (first | exact fun w hw => stringslite_Index_ok _ _ w)) | refine zoS (fun _ => ?_) (fun _ => ?_) | refine zqS (fun _ => ?_) (fun _ => ?_) | refine zwS (fun _ => ?_) (fun _ => ?_))
    exact fun w' hw => ⟨by rw [cutV, if_neg h0], hw.below⟩

set_option maxHeartbeats 400000 in
theorem strings_Cut_ok (l : List UInt8) (c : UInt8) (hl : l.length ≤ 1000000) (w : World) : Calls Tryd.prog 31 #[S l, S [c]] w fun e w' => e = .returned (cutV l c) ∧ Below w.heap.size w w' := by
  refine calls3 (args := [S l, S [c]]) Tryd.func31 rfl rfl rfl rfl ?_
  by_cases h0 : 0 ≤ Lib.indexByte l c
  · have hc : cutV l c = .tuple #[S (l.take (Lib.indexByte l c).toNat), S (l.drop ((Lib.indexByte l c).toNat + 1)), .bool true] := if_pos h0
    have hk := fun w => stringslite_Cut_ok l c hl w
    rw [hc] at hk ⊢
    repeat' (first | refine aw_seq ?_ | refine zz ?_ | refine zon fun _ => ?_ | refine zoa fun vr lr hr => ?_ | ((first | apply ao_call | apply aq_call); exact wants_a; (first | exact oc_func rfl | exact oc_clos rfl rfl); (exact rfl); (first | exact fun w hw => hk w)) | refine zoS (fun _ => ?_) (fun _ => ?_) | refine zqS (fun _ => ?_) (fun _ => ?_) | refine zwS (fun _ => ?_) (fun _ => ?_))
    exact fun w' hw => ⟨rfl, hw.below⟩
  · have hc : cutV l c = .tuple #[S l, S [], .bool false] := if_neg h0
    have hk := fun w => stringslite_Cut_ok l c hl w
    rw [hc] at hk ⊢
    repeat' (first | refine aw_seq ?_ | refine zz ?_ | refine zon fun _ => ?_ | refine zoa fun vr lr hr => ?_ | ((first | apply ao_call | apply aq_call); exact wants_a; (first | exact oc_func rfl | exact oc_clos rfl rfl); (exact rfl); (first | exact fun w hw => hk w)) | refine zoS (fun _ => ?_) (fun _ => ?_) | refine zqS (fun _ => ?_) (fun _ => ?_) | refine zwS (fun _ => ?_) (fun _ => ?_))
    exact fun w' hw => ⟨rfl, hw.below⟩
end Lab
end Go.Proofs.YtlokhemlpmalaaaDoor
