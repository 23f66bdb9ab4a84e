/- Contracts of package label's functions; conditions: none. -/
import Derived.Test.YtdakeicfhbggeaaGreatTy
import Derived.Lib.Strings
/- Lab: Contracts of package label's functions; conditions: none. -/
namespace Go.Proofs.YtdakeicfhbggeaaGreat
namespace Lab
open Go Go.RowKit Sx
attribute [local irreducible] Go.Calls
def alw (r : Int) : Bool := (decide (97 ≤ r) && decide (r ≤ 122)) || (decide (48 ≤ r) && decide (r ≤ 57)) || r == 45
set_option maxHeartbeats 400000 in
theorem allowed_ok (r : Int) (w : World) : Calls Tryz.prog 132 #[.int .i32 r] w fun e w' => e = .returned (.bool (alw r)) ∧ Below w.heap.size w w' := by
  refine calls1 (args := [.int .i32 r]) Tryz.func132 rfl rfl rfl rfl ?_
  repeat' (first | refine aw_seq ?_ | refine zz ?_ | refine zon fun _ => ?_ | refine zoa fun vr lr hr => ?_ | refine zoS (fun _ => ?_) (fun _ => ?_) | refine zqS (fun _ => ?_) (fun _ => ?_) | refine zwS (fun _ => ?_) (fun _ => ?_))
  all_goals refine fun w' hw => ⟨?_, hw.below⟩
  all_goals simp_all [alw]
  all_goals omega
def rightB (l : List UInt8) : Bool := decide (1 ≤ l.length) && decide (l.length ≤ 24) && l.all (fun c => alw c.toNat) && l[0]? != some 45 && l[l.length - 1]? != some 45
theorem ret_bool {E : Env} {H : Hp} {a b : Bool} (h : a = b) : ∀ w', RepH E H w' → Ending.returned (.bool a) = .returned (.bool b) ∧ Below E.B E.w0 w' := fun _ hw => ⟨by rw [h], hw.below⟩
theorem right_false_of {l : List UInt8} {k : Nat} {c : UInt8} (h : l[k]? = some c) (hc : alw c.toNat = false) : rightB l = false := by
  have : l.all (fun c => alw c.toNat) = false := by
    rw [List.all_eq_false]
    exact ⟨c, List.mem_of_getElem? h, by simp [hc]⟩
  simp [rightB, this]
def okTo (l : List UInt8) (k : Nat) : Prop := ∀ j c, j < k → l[j]? = some c → alw c.toNat = true
theorem okTo_zero (l : List UInt8) : okTo l 0 := fun _ _ h => by omega
theorem okTo_succ {l : List UInt8} {k : Nat} {c : UInt8} (h : okTo l k) (hc : l[k]? = some c) (ha : alw c.toNat = true) : okTo l (k + 1) := fun j d hj hd => by
  by_cases e : j = k
  · subst e; rw [hc] at hd; cases hd; exact ha
  · exact h j d (by omega) hd
theorem okTo_all {l : List UInt8} {k : Nat} (h : okTo l k) (hk : l.length ≤ k) : l.all (fun c => alw c.toNat) = true := by
  rw [List.all_eq_true]
  intro c hc
  obtain ⟨j, hj, e⟩ := List.mem_iff_getElem.1 hc
  exact h j c (by omega) (by rw [← e]; simp [hj])
set_option maxHeartbeats 400000 in
theorem right_ok (l : List UInt8) (w : World) : Calls Tryz.prog 99 #[S l] w fun e w' => e = .returned (.bool (rightB l)) ∧ Below w.heap.size w w' := by
  by_cases h1 : l = []
  · subst h1
    refine calls1 (args := [S []]) Tryz.func99 rfl rfl rfl rfl ?_
    repeat' (first | refine aw_seq ?_ | refine zz ?_ | refine zon fun _ => ?_ | refine zoa fun vr lr hr => ?_ | refine zoS (fun _ => ?_) (fun _ => ?_) | refine zqS (fun _ => ?_) (fun _ => ?_) | refine zwS (fun _ => ?_) (fun _ => ?_))
    all_goals exact ret_bool (by decide)
  have h1' : (l == []) = false := by simpa using h1
  have hpos : 0 < l.length := by cases l with | nil => exact absurd rfl h1 | cons _ _ => simp
  by_cases h2 : 24 < l.length
  · refine calls1 (args := [S l]) Tryz.func99 rfl rfl rfl rfl ?_
    repeat' (first | refine aw_seq ?_ | refine zz ?_ | refine zon fun _ => ?_ | refine zoa fun vr lr hr => ?_ | refine zoS (fun _ => ?_) (fun _ => ?_) | refine zqS (fun _ => ?_) (fun _ => ?_) | refine zwS (fun _ => ?_) (fun _ => ?_))
    all_goals exact ret_bool (by simp [rightB]; omega)
  obtain ⟨c0, h0⟩ : ∃ c, l[0]? = some c := ⟨l[0], by simp [hpos]⟩
  obtain ⟨c1, hL⟩ : ∃ c, l[l.length - 1]? = some c := ⟨l[l.length - 1], by simp⟩
  refine calls1 (args := [S l]) Tryz.func99 rfl rfl rfl rfl ?_
  repeat' (first | refine aw_seq ?_ | ((first | apply ao_val | apply aq_val); exact wants_a; (first | exact ov_sindex rfl rfl h0 (by omega) | exact ov_sindex rfl rfl hL (by omega) | exact ov_a); (exact rfl)) | refine zy ?_ | refine zon fun _ => ?_ | refine zoa fun vr lr hr => ?_ | refine zoS (fun _ => ?_) (fun _ => ?_) | refine zqS (fun _ => ?_) (fun _ => ?_) | refine zwS (fun _ => ?_) (fun _ => ?_))
  · have h : ((c0.toNat : Int) == 45) = true := by assumption
    have h' : c0 = 45 := UInt8.toNat.inj (by have := eq_of_beq h; simp; omega)
    subst h'; exact ret_bool (by simp [rightB, h0])
  · have h : ((c1.toNat : Int) == 45) = true := by assumption
    have h' : c1 = 45 := UInt8.toNat.inj (by have := eq_of_beq h; simp; omega)
    subst h'; exact ret_bool (by simp [rightB, hL])
  have hc0 : ((c0.toNat : Int) == 45) = false := by assumption
  have hc1 : ((c1.toNat : Int) == 45) = false := by assumption
  have hn0 : c0 ≠ 45 := by rintro rfl; exact absurd hc0 (by decide)
  have hn1 : c1 ≠ 45 := by rintro rfl; exact absurd hc1 (by decide)
  refine aw_for (t0 := [(0, S l), (24, .pointer (some ⟨_, 0, none⟩))]) (fun m t H => ∃ b k : Nat, m = l.length - k ∧ okTo l k ∧ t = [(0, S l), (24, .pointer (some ⟨b, 0, none⟩))] ∧ H = [(b, .stringIter ⟨l.toArray⟩ k)]) ⟨_, 0, rfl, okTo_zero l, rfl, rfl⟩ (by repeat (first | exact sub_nil | refine sub_cons rfl ?_)) ?_
  rintro m t H ⟨b, k, rfl, hok, rfl, rfl⟩
  by_cases hk : k < l.length
  · have hg : l[k]? = some l[k] := by simp [hk]
    rcases hd : Utf8.decode ⟨l.toArray⟩ k with ⟨r, wd⟩
    by_cases ha : (l[k]).toNat < 128
    · have hd' := decode_ascii ⟨l.toArray⟩ k hk ha
      rw [hd] at hd'
      obtain ⟨rfl, rfl⟩ := Prod.mk.inj hd'
      repeat' (first | refine aw_seq ?_ | refine zz ?_ | refine zon fun _ => ?_ | refine zoa fun vr lr hr => ?_ | ((first | apply ao_call | apply aq_call); exact wants_a; (first | exact oc_func rfl | exact oc_clos rfl rfl | exact oc_bnd rfl rfl); (exact rfl); (first | exact fun w hw => allowed_ok _ w)) | refine zoS (fun _ => ?_) (fun _ => ?_) | refine zqS (fun _ => ?_) (fun _ => ?_) | refine zwS (fun _ => ?_) (fun _ => ?_))
      · have h : (!alw ↑(l[k]).toNat) = true := by assumption
        exact ret_bool (right_false_of hg (by simpa using h)).symm
      · have h : (!alw ↑(l[k]).toNat) = false := by assumption
        exact lq_normal ⟨b, k + 1, rfl, okTo_succ hok hg (by simpa using h), rfl, rfl⟩ (by omega) (by repeat (first | exact sub_nil | refine sub_cons rfl ?_))
    · have hd' := decode_high ⟨l.toArray⟩ k hk (by show 128 ≤ (l[k]).toNat; omega)
      rw [hd] at hd'
      have hr : alw r = false := by simp only [alw]; simp; omega
      have hr2 : (!alw r) = true := by rw [hr]; rfl
      have hc : alw (l[k]).toNat = false := by simp only [alw]; simp; omega
      repeat' (first | refine aw_seq ?_ | refine zz ?_ | refine zon fun _ => ?_ | refine zoa fun vr lr hr => ?_ | ((first | apply ao_call | apply aq_call); exact wants_a; (first | exact oc_func rfl | exact oc_clos rfl rfl | exact oc_bnd rfl rfl); (exact rfl); (first | exact fun w hw => allowed_ok _ w)) | refine zoS (fun _ => ?_) (fun _ => ?_) | refine zqS (fun _ => ?_) (fun _ => ?_) | refine zwS (fun _ => ?_) (fun _ => ?_))
      exact ret_bool (right_false_of hg hc).symm
  · have hall : rightB l = true := by
      have h5 := okTo_all hok (by omega)
      simp only [rightB, h5, h0, hL]
      simp [hn0, hn1]
      omega
    repeat' (first | refine aw_seq ?_ | refine zz ?_ | refine zon fun _ => ?_ | refine zoa fun vr lr hr => ?_ | ((first | apply ao_call | apply aq_call); exact wants_a; (first | exact oc_func rfl | exact oc_clos rfl rfl | exact oc_bnd rfl rfl); (exact rfl); (first | exact fun w hw => allowed_ok _ w)) | refine zoS (fun _ => ?_) (fun _ => ?_) | refine zqS (fun _ => ?_) (fun _ => ?_) | refine zwS (fun _ => ?_) (fun _ => ?_))
    exact ret_bool hall.symm
end Lab
end Go.Proofs.YtdakeicfhbggeaaGreat
/- Libc: Contracts of the library functions that package label calls, at a separator of one byte; conditions: none. -/
namespace Go.Proofs.YtdakeicfhbggeaaGreat
namespace Lab
open Go Go.RowKit Sx
attribute [local irreducible] Go.Calls
end Lab
end Go.Proofs.YtdakeicfhbggeaaGreat
/- Labk: Contracts of package label's functions on keys; conditions: parts of at most 1000 bytes. -/
namespace Go.Proofs.YtdakeicfhbggeaaGreat
namespace Lab
open Go Go.RowKit Sx
attribute [local irreducible] Go.Calls
abbrev K3 (k s n : List UInt8) : Value := .agg #[S k, S s, S n]
def keyB (k s n : List UInt8) : Bool := rightB s && rightB k && rightB n
def joinB (k s n : List UInt8) : List UInt8 := s ++ [47] ++ k ++ [47] ++ n
set_option maxHeartbeats 400000 in
theorem key_ok (k s n : List UInt8) (w : World) : Calls Tryz.prog 98 #[K3 k s n] w fun e w' => e = .returned (.bool (keyB k s n)) ∧ Below w.heap.size w w' := by
  refine calls1 (args := [K3 k s n]) Tryz.func98 rfl rfl rfl rfl ?_
  repeat' (first | refine aw_seq ?_ | refine zz ?_ | refine zon fun _ => ?_ | refine zoa fun vr lr hr => ?_ | ((first | apply ao_call | apply aq_call); exact wants_a; (first | exact oc_func rfl | exact oc_clos rfl rfl | exact oc_bnd rfl rfl); (exact rfl); (first | exact fun w hw => right_ok _ w)) | refine zoS (fun _ => ?_) (fun _ => ?_) | refine zqS (fun _ => ?_) (fun _ => ?_) | refine zwS (fun _ => ?_) (fun _ => ?_))
  all_goals exact ret_bool (by simp_all [keyB])
set_option maxHeartbeats 400000 in
theorem joined_ok (k s n : List UInt8) (hk : k.length ≤ 1000) (hs : s.length ≤ 1000) (hn : n.length ≤ 1000) (w : World) : Calls Tryz.prog 130 #[K3 k s n] w fun e w' => e = .returned (S (joinB k s n)) ∧ Below w.heap.size w w' := by
  refine calls1 (args := [K3 k s n]) Tryz.func130 rfl rfl rfl rfl ?_
  repeat' (first | refine aw_seq ?_ | refine zz ?_ | refine zon fun _ => ?_ | refine zoa fun vr lr hr => ?_ | refine zoS (fun _ => ?_) (fun _ => ?_) | refine zqS (fun _ => ?_) (fun _ => ?_) | refine zwS (fun _ => ?_) (fun _ => ?_))
  exact fun w' hw => ⟨rfl, hw.below⟩
set_option maxHeartbeats 400000 in
theorem less_ok (k s n k2 s2 n2 : List UInt8) (hk : k.length ≤ 1000) (hs : s.length ≤ 1000) (hn : n.length ≤ 1000) (hk2 : k2.length ≤ 1000) (hs2 : s2.length ≤ 1000) (hn2 : n2.length ≤ 1000) (w : World) :
    Calls Tryz.prog 96 #[K3 k s n, K3 k2 s2 n2] w fun e w' => e = .returned (.bool (Op.bytesLess (joinB k s n) (joinB k2 s2 n2))) ∧ Below w.heap.size w w' := by
  refine calls1 (args := [K3 k s n, K3 k2 s2 n2]) Tryz.func96 rfl rfl rfl rfl ?_
  repeat' (first | refine aw_seq ?_ | refine zz ?_ | refine zon fun _ => ?_ | refine zoa fun vr lr hr => ?_ | ((first | apply ao_call | apply aq_call); exact wants_a; (first | exact oc_func rfl | exact oc_clos rfl rfl | exact oc_bnd rfl rfl); (exact rfl); (first | exact fun w hw => joined_ok _ _ _ (by assumption) (by assumption) (by assumption) w)) | refine zoS (fun _ => ?_) (fun _ => ?_) | refine zqS (fun _ => ?_) (fun _ => ?_) | refine zwS (fun _ => ?_) (fun _ => ?_))
  exact ret_bool rfl
def pieces (l : List UInt8) : List UInt8 × List UInt8 × List UInt8 :=
  let cut (l : List UInt8) : List UInt8 × List UInt8 := if 0 ≤ Lib.indexByte l 47 then (l.take (Lib.indexByte l 47).toNat, l.drop ((Lib.indexByte l 47).toNat + 1)) else (l, [])
  ((cut l).1, (cut (cut l).2).1, (cut (cut l).2).2)
end Lab
end Go.Proofs.YtdakeicfhbggeaaGreat
/- Labr: Contracts of the document's answer for layer 1; conditions: parts of at most 1000 bytes. -/
namespace Go.Proofs.YtdakeicfhbggeaaGreat
namespace Lab
open Go Go.RowKit Sx
attribute [local irreducible] Go.Calls
end Lab
end Go.Proofs.YtdakeicfhbggeaaGreat
/- Labs: More contracts of the document's answer for layer 1; conditions: texts of at most 100000 bytes. -/
namespace Go.Proofs.YtdakeicfhbggeaaGreat
namespace Lab
open Go Go.RowKit Sx
attribute [local irreducible] Go.Calls
def nxt (l : List UInt8) : Nat := (l.takeWhile (fun c => c != 47)).length
theorem indexByte_nxt : ∀ (l : List UInt8), Lib.indexByte l 47 = if nxt l < l.length then (nxt l : Int) else -1
  | [] => rfl
  | c :: l => by
    have ih := indexByte_nxt l
    by_cases hc : c = 47
    · subst hc; simp [Lib.indexByte, nxt]
    · have hn : nxt (c :: l) = nxt l + 1 := by
        unfold nxt
        rw [List.takeWhile_cons_of_pos (by simpa using hc)]
        rfl
      have hc' : (c == 47) = false := by simpa using hc
      unfold Lib.indexByte
      rw [hn, hc', ih]
      simp only [Bool.false_eq_true, if_false, List.length_cons]
      by_cases hl : nxt l < l.length
      · have h2 : nxt l + 1 < l.length + 1 := by omega
        have : ((nxt l : Int) == -1) = false := by rw [beq_eq_false_iff_ne]; omega
        simp only [hl, h2, if_true, this, Bool.false_eq_true, if_false]
        omega
      · have h2 : ¬ nxt l + 1 < l.length + 1 := by omega
        simp only [hl, h2, if_false]
        rfl
theorem cut_nxt (l : List UInt8) : (if 0 ≤ Lib.indexByte l 47 then (l.take (Lib.indexByte l 47).toNat, l.drop ((Lib.indexByte l 47).toNat + 1)) else (l, [])) = if nxt l < l.length then (l.take (nxt l), l.drop (nxt l + 1)) else (l, []) := by
  rw [indexByte_nxt]
  by_cases h : nxt l < l.length
  · simp [h]
  · simp [h]
theorem pieces_nxt (l : List UInt8) : pieces l = if nxt l < l.length then (l.take (nxt l), if nxt (l.drop (nxt l + 1)) < (l.drop (nxt l + 1)).length then ((l.drop (nxt l + 1)).take (nxt (l.drop (nxt l + 1))), (l.drop (nxt l + 1)).drop (nxt (l.drop (nxt l + 1)) + 1)) else (l.drop (nxt l + 1), [])) else (l, [], []) := by
  simp only [pieces, cut_nxt]
  by_cases h : nxt l < l.length
  · simp only [h, if_true]
  · simp only [h, if_false]
    rfl
end Lab
end Go.Proofs.YtdakeicfhbggeaaGreat
