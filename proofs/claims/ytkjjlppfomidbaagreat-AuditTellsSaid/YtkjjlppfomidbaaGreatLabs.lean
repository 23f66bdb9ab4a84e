/- Contracts of package label's functions; conditions: none. -/
import Derived.Test.YtkjjlppfomidbaaGreatTy
import Derived.Lib.Strings
/- Lab: Contracts of package label's functions; conditions: none. -/
namespace Go.Proofs.YtkjjlppfomidbaaGreat
namespace Lab
open Go Go.RowKit Sx
attribute [local irreducible] Go.Calls
def alw (r : Int) : Bool := (decide (97 ≤ r) && decide (r ≤ 122)) || (decide (48 ≤ r) && decide (r ≤ 57)) || r == 45
set_option maxHeartbeats 400000 in
theorem allowed_ok (r : Int) (w : World) : Calls Tryz.prog 85 #[.int .i32 r] w fun e w' => e = .returned (.bool (alw r)) ∧ Below w.heap.size w w' := by
  refine calls1 (args := [.int .i32 r]) Tryz.func85 rfl rfl rfl rfl ?_
  repeat' (first | refine aw_seq ?_ | refine zz ?_ | refine zon fun _ => ?_ | refine zoa fun vr lr hr => ?_ | refine zoS (fun _ => ?_) (fun _ => ?_) | refine zqS (fun _ => ?_) (fun _ => ?_) | refine zwS (fun _ => ?_) (fun _ => ?_))
  all_goals refine fun w' hw => ⟨?_, hw.below⟩
  all_goals simp_all [alw]
  all_goals omega
def rightB (l : List UInt8) : Bool := decide (1 ≤ l.length) && decide (l.length ≤ 24) && l.all (fun c => alw c.toNat) && l[0]? != some 45 && l[l.length - 1]? != some 45
theorem ret_bool {E : Env} {H : Hp} {a b : Bool} (h : a = b) : ∀ w', RepH E H w' → Ending.returned (.bool a) = .returned (.bool b) ∧ Below E.B E.w0 w' := fun _ hw => ⟨by rw [h], hw.below⟩
theorem right_false_of {l : List UInt8} {k : Nat} {c : UInt8} (h : l[k]? = some c) (hc : alw c.toNat = false) : rightB l = false := by
  have : l.all (fun c => alw c.toNat) = false := by
    rw [List.all_eq_false]
    exact ⟨c, List.mem_of_getElem? h, by simp [hc]⟩
  simp [rightB, this]
def okTo (l : List UInt8) (k : Nat) : Prop := ∀ j c, j < k → l[j]? = some c → alw c.toNat = true
theorem okTo_zero (l : List UInt8) : okTo l 0 := fun _ _ h => by omega
theorem okTo_succ {l : List UInt8} {k : Nat} {c : UInt8} (h : okTo l k) (hc : l[k]? = some c) (ha : alw c.toNat = true) : okTo l (k + 1) := fun j d hj hd => by
  by_cases e : j = k
  · subst e; rw [hc] at hd; cases hd; exact ha
  · exact h j d (by omega) hd
theorem okTo_all {l : List UInt8} {k : Nat} (h : okTo l k) (hk : l.length ≤ k) : l.all (fun c => alw c.toNat) = true := by
  rw [List.all_eq_true]
  intro c hc
  obtain ⟨j, hj, e⟩ := List.mem_iff_getElem.1 hc
  exact h j c (by omega) (by rw [← e]; simp [hj])
set_option maxHeartbeats 400000 in
theorem right_ok (l : List UInt8) (w : World) : Calls Tryz.prog 52 #[S l] w fun e w' => e = .returned (.bool (rightB l)) ∧ Below w.heap.size w w' := by
  by_cases h1 : l = []
  · subst h1
    refine calls1 (args := [S []]) Tryz.func52 rfl rfl rfl rfl ?_
    repeat' (first | refine aw_seq ?_ | refine zz ?_ | refine zon fun _ => ?_ | refine zoa fun vr lr hr => ?_ | refine zoS (fun _ => ?_) (fun _ => ?_) | refine zqS (fun _ => ?_) (fun _ => ?_) | refine zwS (fun _ => ?_) (fun _ => ?_))
    all_goals exact ret_bool (by decide)
  have h1' : (l == []) = false := by simpa using h1
  have hpos : 0 < l.length := by cases l with | nil => exact absurd rfl h1 | cons _ _ => simp
  by_cases h2 : 24 < l.length
  · refine calls1 (args := [S l]) Tryz.func52 rfl rfl rfl rfl ?_
    repeat' (first | refine aw_seq ?_ | refine zz ?_ | refine zon fun _ => ?_ | refine zoa fun vr lr hr => ?_ | refine zoS (fun _ => ?_) (fun _ => ?_) | refine zqS (fun _ => ?_) (fun _ => ?_) | refine zwS (fun _ => ?_) (fun _ => ?_))
    all_goals exact ret_bool (by simp [rightB]; omega)
  obtain ⟨c0, h0⟩ : ∃ c, l[0]? = some c := ⟨l[0], by simp [hpos]⟩
  obtain ⟨c1, hL⟩ : ∃ c, l[l.length - 1]? = some c := ⟨l[l.length - 1], by simp⟩
  refine calls1 (args := [S l]) Tryz.func52 rfl rfl rfl rfl ?_
  repeat' (first | refine aw_seq ?_ | ((first | apply ao_val | apply aq_val); exact wants_a; (first | exact ov_sindex rfl rfl h0 (by omega) | exact ov_sindex rfl rfl hL (by omega) | exact ov_a); (exact rfl)) | refine zy ?_ | refine zon fun _ => ?_ | refine zoa fun vr lr hr => ?_ | refine zoS (fun _ => ?_) (fun _ => ?_) | refine zqS (fun _ => ?_) (fun _ => ?_) | refine zwS (fun _ => ?_) (fun _ => ?_))
  · have h : ((c0.toNat : Int) == 45) = true := by assumption
    have h' : c0 = 45 := UInt8.toNat.inj (by have := eq_of_beq h; simp; omega)
    subst h'; exact ret_bool (by simp [rightB, h0])
  · have h : ((c1.toNat : Int) == 45) = true := by assumption
    have h' : c1 = 45 := UInt8.toNat.inj (by have := eq_of_beq h; simp; omega)
    subst h'; exact ret_bool (by simp [rightB, hL])
  have hc0 : ((c0.toNat : Int) == 45) = false := by assumption
  have hc1 : ((c1.toNat : Int) == 45) = false := by assumption
  have hn0 : c0 ≠ 45 := by rintro rfl; exact absurd hc0 (by decide)
  have hn1 : c1 ≠ 45 := by rintro rfl; exact absurd hc1 (by decide)
  refine aw_for (t0 := [(0, S l), (24, .pointer (some ⟨_, 0, none⟩))]) (fun m t H => ∃ b k : Nat, m = l.length - k ∧ okTo l k ∧ t = [(0, S l), (24, .pointer (some ⟨b, 0, none⟩))] ∧ H = [(b, .stringIter ⟨l.toArray⟩ k)]) ⟨_, 0, rfl, okTo_zero l, rfl, rfl⟩ (by repeat (first | exact sub_nil | refine sub_cons rfl ?_)) ?_
  rintro m t H ⟨b, k, rfl, hok, rfl, rfl⟩
  by_cases hk : k < l.length
  · have hg : l[k]? = some l[k] := by simp [hk]
    rcases hd : Utf8.decode ⟨l.toArray⟩ k with ⟨r, wd⟩
    by_cases ha : (l[k]).toNat < 128
    · have hd' := decode_ascii ⟨l.toArray⟩ k hk ha
      rw [hd] at hd'
      obtain ⟨rfl, rfl⟩ := Prod.mk.inj hd'
      repeat' (first | refine aw_seq ?_ | refine zz ?_ | refine zon fun _ => ?_ | refine zoa fun vr lr hr => ?_ | ((first | apply ao_call | apply aq_call); exact wants_a; (first | exact oc_func rfl | exact oc_clos rfl rfl | exact oc_bnd rfl rfl); (exact rfl); (first | exact fun w hw => allowed_ok _ w)) | refine zoS (fun _ => ?_) (fun _ => ?_) | refine zqS (fun _ => ?_) (fun _ => ?_) | refine zwS (fun _ => ?_) (fun _ => ?_))
      · have h : (!alw ↑(l[k]).toNat) = true := by assumption
        exact ret_bool (right_false_of hg (by simpa using h)).symm
      · have h : (!alw ↑(l[k]).toNat) = false := by assumption
        exact lq_normal ⟨b, k + 1, rfl, okTo_succ hok hg (by simpa using h), rfl, rfl⟩ (by omega) (by repeat (first | exact sub_nil | refine sub_cons rfl ?_))
    · have hd' := decode_high ⟨l.toArray⟩ k hk (by show 128 ≤ (l[k]).toNat; omega)
      rw [hd] at hd'
      have hr : alw r = false := by simp only [alw]; simp; omega
      have hr2 : (!alw r) = true := by rw [hr]; rfl
      have hc : alw (l[k]).toNat = false := by simp only [alw]; simp; omega
      repeat' (first | refine aw_seq ?_ | refine zz ?_ | refine zon fun _ => ?_ | refine zoa fun vr lr hr => ?_ | ((first | apply ao_call | apply aq_call); exact wants_a; (first | exact oc_func rfl | exact oc_clos rfl rfl | exact oc_bnd rfl rfl); (exact rfl); (first | exact fun w hw => allowed_ok _ w)) | refine zoS (fun _ => ?_) (fun _ => ?_) | refine zqS (fun _ => ?_) (fun _ => ?_) | refine zwS (fun _ => ?_) (fun _ => ?_))
      exact ret_bool (right_false_of hg hc).symm
  · have hall : rightB l = true := by
      have h5 := okTo_all hok (by omega)
      simp only [rightB, h5, h0, hL]
      simp [hn0, hn1]
      omega
    repeat' (first | refine aw_seq ?_ | refine zz ?_ | refine zon fun _ => ?_ | refine zoa fun vr lr hr => ?_ | ((first | apply ao_call | apply aq_call); exact wants_a; (first | exact oc_func rfl | exact oc_clos rfl rfl | exact oc_bnd rfl rfl); (exact rfl); (first | exact fun w hw => allowed_ok _ w)) | refine zoS (fun _ => ?_) (fun _ => ?_) | refine zqS (fun _ => ?_) (fun _ => ?_) | refine zwS (fun _ => ?_) (fun _ => ?_))
    exact ret_bool hall.symm
end Lab
end Go.Proofs.YtkjjlppfomidbaaGreat
/- Libc: Contracts of the library functions that package label calls, at a separator of one byte; conditions: none. -/
namespace Go.Proofs.YtkjjlppfomidbaaGreat
namespace Lab
open Go Go.RowKit Sx
attribute [local irreducible] Go.Calls
end Lab
end Go.Proofs.YtkjjlppfomidbaaGreat
/- Labk: Contracts of package label's functions on keys; conditions: parts of at most 1000 bytes. -/
namespace Go.Proofs.YtkjjlppfomidbaaGreat
namespace Lab
open Go Go.RowKit Sx
attribute [local irreducible] Go.Calls
abbrev K3 (k s n : List UInt8) : Value := .agg #[S k, S s, S n]
def keyB (k s n : List UInt8) : Bool := rightB s && rightB k && rightB n
def joinB (k s n : List UInt8) : List UInt8 := s ++ [47] ++ k ++ [47] ++ n
set_option maxHeartbeats 400000 in
theorem key_ok (k s n : List UInt8) (w : World) : Calls Tryz.prog 172 #[K3 k s n] w fun e w' => e = .returned (.bool (keyB k s n)) ∧ Below w.heap.size w w' := by
  refine calls1 (args := [K3 k s n]) Tryz.func172 rfl rfl rfl rfl ?_
  repeat' (first | refine aw_seq ?_ | refine zz ?_ | refine zon fun _ => ?_ | refine zoa fun vr lr hr => ?_ | ((first | apply ao_call | apply aq_call); exact wants_a; (first | exact oc_func rfl | exact oc_clos rfl rfl | exact oc_bnd rfl rfl); (exact rfl); (first | exact fun w hw => right_ok _ w)) | refine zoS (fun _ => ?_) (fun _ => ?_) | refine zqS (fun _ => ?_) (fun _ => ?_) | refine zwS (fun _ => ?_) (fun _ => ?_))
  all_goals exact ret_bool (by simp_all [keyB])
end Lab
end Go.Proofs.YtkjjlppfomidbaaGreat
/- Labr: Contracts of the document's answer for layer 1; conditions: parts of at most 1000 bytes. -/
namespace Go.Proofs.YtkjjlppfomidbaaGreat
namespace Lab
open Go Go.RowKit Sx
attribute [local irreducible] Go.Calls
theorem byte_ne (c d : UInt8) : ((c.toNat : Int) != (d.toNat : Int)) = (some c != some d) := by
  rw [Bool.eq_iff_iff]
  simp only [bne_iff_ne, ne_eq, Option.some.injEq]
  constructor
  · rintro h rfl; exact h rfl
  · intro h e; exact h (UInt8.toNat.inj (by omega))
theorem rightB_end {l : List UInt8} {c0 c1 : UInt8} (hall : l.all (fun c => alw c.toNat) = true) (h0 : l[0]? = some c0) (hL : l[l.length - 1]? = some c1) (h1 : 1 ≤ l.length) (h2 : l.length ≤ 24) :
    rightB l = (((c0.toNat : Int) != 45) && ((c1.toNat : Int) != 45)) := by
  have e0 := byte_ne c0 45
  have e1 := byte_ne c1 45
  simp only [UInt8.reduceToNat] at e0 e1
  have e0' : ((c0.toNat : Int) != 45) = (some c0 != some 45) := e0
  have e1' : ((c1.toNat : Int) != 45) = (some c1 != some 45) := e1
  simp only [rightB, hall, h0, hL, e0', e1', h1, h2, decide_true, Bool.true_and]
set_option maxHeartbeats 400000 in
theorem rright_ok (l : List UInt8) (hl : l.length ≤ 1000000) (w : World) : Calls Tryz.prog 68 #[S l] w fun e w' => e = .returned (.bool (rightB l)) ∧ Below w.heap.size w w' := by
  by_cases h1 : l.length < 1
  · refine calls1 (args := [S l]) Tryz.func68 rfl rfl rfl rfl ?_
    repeat' (first | refine aw_seq ?_ | refine zz ?_ | refine zon fun _ => ?_ | refine zoa fun vr lr hr => ?_ | refine zoS (fun _ => ?_) (fun _ => ?_) | refine zqS (fun _ => ?_) (fun _ => ?_) | refine zwS (fun _ => ?_) (fun _ => ?_))
    all_goals exact ret_bool (by simp [rightB]; omega)
  by_cases h2 : 24 < l.length
  · refine calls1 (args := [S l]) Tryz.func68 rfl rfl rfl rfl ?_
    repeat' (first | refine aw_seq ?_ | refine zz ?_ | refine zon fun _ => ?_ | refine zoa fun vr lr hr => ?_ | refine zoS (fun _ => ?_) (fun _ => ?_) | refine zqS (fun _ => ?_) (fun _ => ?_) | refine zwS (fun _ => ?_) (fun _ => ?_))
    all_goals exact ret_bool (by simp [rightB]; omega)
  obtain ⟨c0, h0⟩ : ∃ c, l[0]? = some c := ⟨l[0]'(by omega), by simp⟩
  obtain ⟨c1, hL⟩ : ∃ c, l[l.length - 1]? = some c := ⟨l[l.length - 1], by simp⟩
  refine calls1 (args := [S l]) Tryz.func68 rfl rfl rfl rfl ?_
  repeat' (first | refine aw_seq ?_ | refine zz ?_ | refine zon fun _ => ?_ | refine zoa fun vr lr hr => ?_ | refine zoS (fun _ => ?_) (fun _ => ?_) | refine zqS (fun _ => ?_) (fun _ => ?_) | refine zwS (fun _ => ?_) (fun _ => ?_))
  refine aw_for (t0 := [(0, S l), (3, I l.length), (4, I (0 : Nat))]) (fun m t H => ∃ k : Nat, m = l.length - k ∧ k ≤ l.length ∧ okTo l k ∧ t = [(0, S l), (3, I l.length), (4, I k)] ∧ H = []) ⟨0, rfl, by omega, okTo_zero l, rfl, rfl⟩ (by repeat (first | exact sub_nil | refine sub_cons rfl ?_)) ?_
  rintro m t H ⟨k, rfl, hk0, hok, rfl, rfl⟩
  by_cases hk : k < l.length
  · have hg : l[k]? = some l[k] := by simp [hk]
    generalize l[k] = c at hg
    have hc := c.toNat_lt
    cases ha : alw c.toNat
    · repeat' (first | refine aw_cut_at (id := 8) ([(0, S l), (3, I l.length), (4, I k), (40, .bool true)]) ?_ ?_ | refine aw_seq ?_ | ((first | apply ao_val | apply aq_val); exact wants_a; (first | exact ov_sindex rfl rfl hg (by omega) | exact ov_a); (exact rfl)) | refine zy ?_ | refine zon fun _ => ?_ | refine zoa fun vr lr hr => ?_ | refine zoS (fun _ => ?_) (fun _ => ?_) | refine zqS (fun _ => ?_) (fun _ => ?_) | refine zwS (fun _ => ?_) (fun _ => ?_))
      all_goals first | exact ret_bool (right_false_of hg ha).symm | (simp only [alw] at ha; exact cq_normal (sub_cons rfl (sub_cons rfl (sub_cons rfl (sub_cons' rfl (by simp_all <;> omega) sub_nil)))))
    · repeat' (first | refine aw_cut_at (id := 8) ([(0, S l), (3, I l.length), (4, I k), (40, .bool false)]) ?_ ?_ | refine aw_seq ?_ | ((first | apply ao_val | apply aq_val); exact wants_a; (first | exact ov_sindex rfl rfl hg (by omega) | exact ov_a); (exact rfl)) | refine zy ?_ | refine zon fun _ => ?_ | refine zoa fun vr lr hr => ?_ | refine zoS (fun _ => ?_) (fun _ => ?_) | refine zqS (fun _ => ?_) (fun _ => ?_) | refine zwS (fun _ => ?_) (fun _ => ?_))
      all_goals first | exact lq_normal ⟨k + 1, rfl, by omega, okTo_succ hok hg ha, rfl, rfl⟩ (by omega) (by repeat (first | exact sub_nil | refine sub_cons rfl ?_)) | (simp only [alw] at ha; exact cq_normal (sub_cons rfl (sub_cons rfl (sub_cons rfl (sub_cons' rfl (by simp_all <;> omega) sub_nil)))))
  · have hall := okTo_all hok (by omega)
    repeat' (first | refine aw_seq ?_ | ((first | apply ao_val | apply aq_val); exact wants_a; (first | exact ov_sindex rfl rfl h0 (by omega) | exact ov_sindex rfl rfl hL (by omega) | exact ov_a); (exact rfl)) | refine zy ?_ | refine zon fun _ => ?_ | refine zoa fun vr lr hr => ?_ | refine zoS (fun _ => ?_) (fun _ => ?_) | refine zqS (fun _ => ?_) (fun _ => ?_) | refine zwS (fun _ => ?_) (fun _ => ?_))
    · have h : ((c0.toNat : Int) != 45) = true := by assumption
      exact ret_bool (by rw [rightB_end hall h0 hL (by omega) (by omega), h]; rfl)
    · have h : ((c0.toNat : Int) != 45) = false := by assumption
      exact ret_bool (by rw [rightB_end hall h0 hL (by omega) (by omega), h]; rfl)
end Lab
end Go.Proofs.YtkjjlppfomidbaaGreat
/- Labs: More contracts of the document's answer for layer 1; conditions: texts of at most 100000 bytes. -/
namespace Go.Proofs.YtkjjlppfomidbaaGreat
namespace Lab
open Go Go.RowKit Sx
attribute [local irreducible] Go.Calls
set_option maxHeartbeats 400000 in
theorem rkey_ok (k s n : List UInt8) (hk : k.length ≤ 100000) (hs : s.length ≤ 100000) (hn : n.length ≤ 100000) (w : World) : Calls Tryz.prog 67 #[K3 k s n] w fun e w' => e = .returned (.bool (keyB k s n)) ∧ Below w.heap.size w w' := by
  refine calls1 (args := [K3 k s n]) Tryz.func67 rfl rfl rfl rfl ?_
  repeat' (first | refine aw_seq ?_ | refine zz ?_ | refine zon fun _ => ?_ | refine zoa fun vr lr hr => ?_ | ((first | apply ao_call | apply aq_call); exact wants_a; (first | exact oc_func rfl | exact oc_clos rfl rfl | exact oc_bnd rfl rfl); (exact rfl); (first | exact fun w hw => rright_ok _ (by omega) w)) | refine zoS (fun _ => ?_) (fun _ => ?_) | refine zqS (fun _ => ?_) (fun _ => ?_) | refine zwS (fun _ => ?_) (fun _ => ?_))
  all_goals exact ret_bool (by simp_all [keyB])
theorem bytesLess_drop {a b : List UInt8} {i : Nat} {x y : UInt8} (hx : a[i]? = some x) (hy : b[i]? = some y) : Op.bytesLess (a.drop i) (b.drop i) = (decide (x < y) || (x == y && Op.bytesLess (a.drop (i + 1)) (b.drop (i + 1)))) := by
  have h1 := (List.getElem?_eq_some_iff.1 hx)
  have h2 := (List.getElem?_eq_some_iff.1 hy)
  obtain ⟨l1, e1⟩ := h1
  obtain ⟨l2, e2⟩ := h2
  rw [List.drop_eq_getElem_cons l1, List.drop_eq_getElem_cons l2, e1, e2]
  rfl
theorem bytesLess_end {a b : List UInt8} {i : Nat} (h : a.length ≤ i ∨ b.length ≤ i) (ha : i ≤ a.length) (hb : i ≤ b.length) : Op.bytesLess (a.drop i) (b.drop i) = decide ((a.length : Int) < (b.length : Int)) := by
  by_cases h2 : b.length ≤ i
  · rw [List.drop_of_length_le h2]
    have : ¬ ((a.length : Int) < (b.length : Int)) := by omega
    simp [Op.bytesLess, this]
  · rw [List.drop_of_length_le (l := a) (by omega), List.drop_eq_getElem_cons (by omega : i < b.length)]
    have : ((a.length : Int) < (b.length : Int)) := by omega
    simp [Op.bytesLess]
    omega
set_option maxHeartbeats 800000 in
theorem before_ok (a b : List UInt8) (ha : a.length ≤ 100000) (hb : b.length ≤ 100000) (w : World) : Calls Tryz.prog 69 #[S a, S b] w fun e w' => e = .returned (.bool (Op.bytesLess a b)) ∧ Below w.heap.size w w' := by
  refine calls1 (args := [S a, S b]) Tryz.func69 rfl rfl rfl rfl ?_
  repeat' (first | refine aw_seq ?_ | refine zz ?_ | refine zon fun _ => ?_ | refine zoa fun vr lr hr => ?_ | refine zoS (fun _ => ?_) (fun _ => ?_) | refine zqS (fun _ => ?_) (fun _ => ?_) | refine zwS (fun _ => ?_) (fun _ => ?_))
  refine aw_for (t0 := [(0, S a), (1, S b), (5, I (0 : Nat))]) (fun m t H => ∃ i : Nat, m = a.length - i ∧ i ≤ a.length ∧ i ≤ b.length ∧ Op.bytesLess (a.drop i) (b.drop i) = Op.bytesLess a b ∧ t = [(0, S a), (1, S b), (5, I i)] ∧ H = []) ⟨0, rfl, by omega, by omega, rfl, rfl, rfl⟩ (by repeat (first | exact sub_nil | refine sub_cons rfl ?_)) ?_
  rintro m t H ⟨i, rfl, h1, h2, he, rfl, rfl⟩
  by_cases h3 : i < a.length
  · by_cases h4 : i < b.length
    · have hx : a[i]? = some a[i] := by simp [h3]
      have hy : b[i]? = some b[i] := by simp [h4]
      generalize a[i] = x at hx
      generalize b[i] = y at hy
      rw [bytesLess_drop hx hy] at he
      by_cases hxy : x = y
      · have hne : ((x.toNat : Int) != (y.toNat : Int)) = false := by subst hxy; simp
        repeat' (first | refine aw_seq ?_ | ((first | apply ao_val | apply aq_val); exact wants_a; (first | exact ov_sindex rfl rfl hx (by omega) | exact ov_sindex rfl rfl hy (by omega) | exact ov_a); (exact rfl)) | refine zy ?_ | refine zon fun _ => ?_ | refine zoa fun vr lr hr => ?_ | refine zoS (fun _ => ?_) (fun _ => ?_) | refine zqS (fun _ => ?_) (fun _ => ?_) | refine zwS (fun _ => ?_) (fun _ => ?_))
        refine lq_normal ⟨i + 1, rfl, by omega, by omega, ?_, rfl, rfl⟩ (by omega) (by repeat (first | exact sub_nil | refine sub_cons rfl ?_))
        rw [← he]
        subst hxy
        simp
      · have hne : ((x.toNat : Int) != (y.toNat : Int)) = true := by
          rw [bne_iff_ne]; intro h; exact hxy (UInt8.toNat.inj (by omega))
        repeat' (first | refine aw_seq ?_ | ((first | apply ao_val | apply aq_val); exact wants_a; (first | exact ov_sindex rfl rfl hx (by omega) | exact ov_sindex rfl rfl hy (by omega) | exact ov_a); (exact rfl)) | refine zy ?_ | refine zon fun _ => ?_ | refine zoa fun vr lr hr => ?_ | refine zoS (fun _ => ?_) (fun _ => ?_) | refine zqS (fun _ => ?_) (fun _ => ?_) | refine zwS (fun _ => ?_) (fun _ => ?_))
        refine ret_bool ?_
        rw [← he]
        have : (x == y) = false := by simpa using hxy
        rw [this]
        simp only [Bool.false_and, Bool.or_false, UInt8.lt_iff_toNat_lt]
        simp
    · rw [bytesLess_end (.inr (by omega)) h1 h2] at he
      repeat' (first | refine aw_seq ?_ | refine zz ?_ | refine zon fun _ => ?_ | refine zoa fun vr lr hr => ?_ | refine zoS (fun _ => ?_) (fun _ => ?_) | refine zqS (fun _ => ?_) (fun _ => ?_) | refine zwS (fun _ => ?_) (fun _ => ?_))
      exact ret_bool he
  · rw [bytesLess_end (.inl (by omega)) h1 h2] at he
    repeat' (first | refine aw_seq ?_ | refine zz ?_ | refine zon fun _ => ?_ | refine zoa fun vr lr hr => ?_ | refine zoS (fun _ => ?_) (fun _ => ?_) | refine zqS (fun _ => ?_) (fun _ => ?_) | refine zwS (fun _ => ?_) (fun _ => ?_))
    exact ret_bool he
end Lab
end Go.Proofs.YtkjjlppfomidbaaGreat
