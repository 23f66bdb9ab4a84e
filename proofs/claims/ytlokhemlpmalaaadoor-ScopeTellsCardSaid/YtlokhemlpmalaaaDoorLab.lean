/- Contracts of package label's functions; conditions: none. -/
import Derived.Test.YtlokhemlpmalaaaDoorTy
namespace Go.Proofs.YtlokhemlpmalaaaDoor
namespace Lab
open Go Go.RowKit Sx
attribute [local irreducible] Go.Calls

def alw (r : Int) : Bool := (decide (97 ≤ r) && decide (r ≤ 122)) || (decide (48 ≤ r) && decide (r ≤ 57)) || r == 45

set_option maxHeartbeats 400000 in
theorem allowed_ok (r : Int) (w : World) : Calls Tryd.prog 50 #[.int .i32 r] w fun e w' => e = .returned (.bool (alw r)) ∧ Below w.heap.size w w' := by
  refine calls1 (args := [.int .i32 r]) Tryd.func50 rfl rfl rfl rfl ?_
  repeat' (first | refine aw_seq ?_ | refine zz ?_ | refine zon fun _ => ?_ | refine zoa fun vr lr hr => ?_ | refine zoS (fun _ => ?_) (fun _ => ?_) | refine zqS (fun _ => ?_) (fun _ => ?_) | refine zwS (fun _ => ?_) (fun _ => ?_))
  all_goals refine fun w' hw => ⟨?_, hw.below⟩
  all_goals simp_all [alw]
  all_goals omega

def rightB (l : List UInt8) : Bool := decide (1 ≤ l.length) && decide (l.length ≤ 24) && l.all (fun c => alw c.toNat) && l[0]? != some 45 && l[l.length - 1]? != some 45

theorem ret_bool {E : Env} {H : Hp} {a b : Bool} (h : a = b) : ∀ w', RepH E H w' → Ending.returned (.bool a) = .returned (.bool b) ∧ Below E.B E.w0 w' := fun _ hw => ⟨by rw [h], hw.below⟩

theorem right_false_of {l : List UInt8} {k : Nat} {c : UInt8} (h : l[k]? = some c) (hc : alw c.toNat = false) : rightB l = false := by
  have : l.all (fun c => alw c.toNat) = false := by
    rw [List.all_eq_false]
    exact ⟨c, List.mem_of_getElem? h, by simp [hc]⟩
  simp [rightB, this]

/-- Up to here all bytes are allowed. -/
def okTo (l : List UInt8) (k : Nat) : Prop := ∀ j c, j < k → l[j]? = some c → alw c.toNat = true
theorem okTo_zero (l : List UInt8) : okTo l 0 := fun _ _ h => by omega
theorem okTo_succ {l : List UInt8} {k : Nat} {c : UInt8} (h : okTo l k) (hc : l[k]? = some c) (ha : alw c.toNat = true) : okTo l (k + 1) := fun j d hj hd => by
  by_cases e : j = k
  · subst e; rw [hc] at hd; cases hd; exact ha
  · exact h j d (by omega) hd
theorem okTo_all {l : List UInt8} {k : Nat} (h : okTo l k) (hk : l.length ≤ k) : l.all (fun c => alw c.toNat) = true := by
  rw [List.all_eq_true]
  intro c hc
  obtain ⟨j, hj, e⟩ := List.mem_iff_getElem.1 hc
  exact h j c (by omega) (by rw [← e]; simp [hj])

set_option maxHeartbeats 400000 in
theorem right_ok (l : List UInt8) (w : World) : Calls Tryd.prog 42 #[S l] w fun e w' => e = .returned (.bool (rightB l)) ∧ Below w.heap.size w w' := by
  by_cases h1 : l = []
  · subst h1
    refine calls1 (args := [S []]) Tryd.func42 rfl rfl rfl rfl ?_
    repeat' (first | refine aw_seq ?_ | refine zz ?_ | refine zon fun _ => ?_ | refine zoa fun vr lr hr => ?_ | refine zoS (fun _ => ?_) (fun _ => ?_) | refine zqS (fun _ => ?_) (fun _ => ?_) | refine zwS (fun _ => ?_) (fun _ => ?_))
    all_goals exact ret_bool (by decide)
  have h1' : (l == []) = false := by simpa using h1
  have hpos : 0 < l.length := by cases l with | nil => exact absurd rfl h1 | cons _ _ => simp
  by_cases h2 : 24 < l.length
  · refine calls1 (args := [S l]) Tryd.func42 rfl rfl rfl rfl ?_
    repeat' (first | refine aw_seq ?_ | refine zz ?_ | refine zon fun _ => ?_ | refine zoa fun vr lr hr => ?_ | refine zoS (fun _ => ?_) (fun _ => ?_) | refine zqS (fun _ => ?_) (fun _ => ?_) | refine zwS (fun _ => ?_) (fun _ => ?_))
    all_goals exact ret_bool (by simp [rightB]; omega)
  obtain ⟨c0, h0⟩ : ∃ c, l[0]? = some c := ⟨l[0], by simp [hpos]⟩
  obtain ⟨c1, hL⟩ : ∃ c, l[l.length - 1]? = some c := ⟨l[l.length - 1], by simp⟩
  refine calls1 (args := [S l]) Tryd.func42 rfl rfl rfl rfl ?_
  repeat' (first | refine aw_seq ?_ | ((first | apply ao_val | apply aq_val); exact wants_a; (first | exact ov_sindex rfl rfl h0 (by omega) | exact ov_sindex rfl rfl hL (by omega) | exact ov_a); (exact rfl)) | refine zy ?_ | refine zon fun _ => ?_ | refine zoa fun vr lr hr => ?_ | refine zoS (fun _ => ?_) (fun _ => ?_) | refine zqS (fun _ => ?_) (fun _ => ?_) | refine zwS (fun _ => ?_) (fun _ => ?_))
  · have h : ((c0.toNat : Int) == 45) = true := by assumption
    have h' : c0 = 45 := UInt8.toNat.inj (by have := eq_of_beq h; simp; omega)
    subst h'; exact ret_bool (by simp [rightB, h0])
  · have h : ((c1.toNat : Int) == 45) = true := by assumption
    have h' : c1 = 45 := UInt8.toNat.inj (by have := eq_of_beq h; simp; omega)
    subst h'; exact ret_bool (by simp [rightB, hL])
  have hc0 : ((c0.toNat : Int) == 45) = false := by assumption
  have hc1 : ((c1.toNat : Int) == 45) = false := by assumption
  have hn0 : c0 ≠ 45 := by rintro rfl; exact absurd hc0 (by decide)
  have hn1 : c1 ≠ 45 := by rintro rfl; exact absurd hc1 (by decide)
  refine aw_for (t0 := [(0, S l), (24, .pointer (some ⟨_, 0, none⟩))]) (fun m t H => ∃ b k : Nat, m = l.length - k ∧ okTo l k ∧ t = [(0, S l), (24, .pointer (some ⟨b, 0, none⟩))] ∧ H = [(b, .stringIter ⟨l.toArray⟩ k)]) ⟨_, 0, rfl, okTo_zero l, rfl, rfl⟩ (by repeat (first | exact sub_nil | refine sub_cons rfl ?_)) ?_
  rintro m t H ⟨b, k, rfl, hok, rfl, rfl⟩
  by_cases hk : k < l.length
  · have hg : l[k]? = some l[k] := by simp [hk]
    rcases hd : Utf8.decode ⟨l.toArray⟩ k with ⟨r, wd⟩
    by_cases ha : (l[k]).toNat < 128
    · have hd' := decode_ascii ⟨l.toArray⟩ k hk ha
      rw [hd] at hd'
      obtain ⟨rfl, rfl⟩ := Prod.mk.inj hd'
      repeat' (first | refine aw_seq ?_ | refine zz ?_ | refine zon fun _ => ?_ | refine zoa fun vr lr hr => ?_ | ((first | apply ao_call | apply aq_call); exact wants_a; (first | exact oc_func rfl | exact oc_clos rfl rfl); (exact rfl); (first | exact fun w hw => allowed_ok _ w)) | refine zoS (fun _ => ?_) (fun _ => ?_) | refine zqS (fun _ => ?_) (fun _ => ?_) | refine zwS (fun _ => ?_) (fun _ => ?_))
      · have h : (!alw ↑(l[k]).toNat) = true := by assumption
        exact ret_bool (right_false_of hg (by simpa using h)).symm
      · have h : (!alw ↑(l[k]).toNat) = false := by assumption
        exact lq_normal ⟨b, k + 1, rfl, okTo_succ hok hg (by simpa using h), rfl, rfl⟩ (by omega) (by repeat (first | exact sub_nil | refine sub_cons rfl ?_))
    · have hd' := decode_high ⟨l.toArray⟩ k hk (by show 128 ≤ (l[k]).toNat; omega)
      rw [hd] at hd'
      have hr : alw r = false := by simp only [alw]; simp; omega
      have hr2 : (!alw r) = true := by rw [hr]; rfl
      have hc : alw (l[k]).toNat = false := by simp only [alw]; simp; omega
      repeat' (first | refine aw_seq ?_ | refine zz ?_ | refine zon fun _ => ?_ | refine zoa fun vr lr hr => ?_ | ((first | apply ao_call | apply aq_call); exact wants_a; (first | exact oc_func rfl | exact oc_clos rfl rfl); (exact rfl); (first | exact fun w hw => allowed_ok _ w)) | refine zoS (fun _ => ?_) (fun _ => ?_) | refine zqS (fun _ => ?_) (fun _ => ?_) | refine zwS (fun _ => ?_) (fun _ => ?_))
      exact ret_bool (right_false_of hg hc).symm
  · have hall : rightB l = true := by
      have h5 := okTo_all hok (by omega)
      simp only [rightB, h5, h0, hL]
      simp [hn0, hn1]
      omega
    repeat' (first | refine aw_seq ?_ | refine zz ?_ | refine zon fun _ => ?_ | refine zoa fun vr lr hr => ?_ | ((first | apply ao_call | apply aq_call); exact wants_a; (first | exact oc_func rfl | exact oc_clos rfl rfl); (exact rfl); (first | exact fun w hw => allowed_ok _ w)) | refine zoS (fun _ => ?_) (fun _ => ?_) | refine zqS (fun _ => ?_) (fun _ => ?_) | refine zwS (fun _ => ?_) (fun _ => ?_))
    exact ret_bool hall.symm
end Lab
end Go.Proofs.YtlokhemlpmalaaaDoor
