/- Contract of strings.SplitN at a separator of one byte, at most nine pieces; conditions: a text of at most 100,000 bytes. -/
import Derived.Test.YtlokhemlpmalaaaDoorSxq
import Derived.Test.YtlokhemlpmalaaaDoorScpq
import Derived.Test.YtlokhemlpmalaaaDoorLibc
namespace Go.Proofs.YtlokhemlpmalaaaDoor
namespace Scp
open Go Go.RowKit Sx Lab
attribute [local irreducible] Go.Calls

/-- At most k + 1 pieces; the last one is the rest. -/
def splK (c : UInt8) : Nat → Nm → List Nm
  | 0, l => [l]
  | k + 1, l => if 0 ≤ Lib.indexByte l c then l.take (Lib.indexByte l c).toNat :: splK c k (l.drop ((Lib.indexByte l c).toNat + 1)) else [l]
/-- At most nine pieces. -/
def splN (c : UInt8) (l : Nm) : List Nm := splK c (min 9 (l.length + 1) - 1) l
theorem splK_len (c : UInt8) : ∀ (k : Nat) (l : Nm), 1 ≤ (splK c k l).length ∧ (splK c k l).length ≤ k + 1
  | 0, l => by simp [splK]
  | k + 1, l => by
    unfold splK
    split
    · have := splK_len c k (l.drop ((Lib.indexByte l c).toNat + 1))
      simp only [List.length_cons]
      omega
    · simp
theorem indexByte_cases (c : UInt8) : ∀ (l : Nm), (Lib.indexByte l c = -1 ∧ ∀ d ∈ l, d ≠ c) ∨ ∃ i : Nat, Lib.indexByte l c = (i : Int) ∧ i < l.length ∧ (∀ d ∈ l.take i, d ≠ c) ∧ l = l.take i ++ c :: l.drop (i + 1)
  | [] => .inl ⟨rfl, fun d hd => by cases hd⟩
  | b :: l => by
    by_cases hb : b = c
    · subst hb
      exact .inr ⟨0, by simp [Lib.indexByte], by simp, by simp, by simp⟩
    · have hb' : (b == c) = false := beq_eq_false_iff_ne.2 hb
      rcases indexByte_cases c l with ⟨h1, h2⟩ | ⟨i, h1, h2, h3, h4⟩
      · exact .inl ⟨by simp [Lib.indexByte, hb', h1], fun d hd => by
          rcases List.mem_cons.1 hd with rfl | hd
          · exact hb
          · exact h2 d hd⟩
      · refine .inr ⟨i + 1, ?_, by simp; omega, fun d hd => ?_, ?_⟩
        · have : ((i : Int) == -1) = false := by rw [beq_eq_false_iff_ne]; omega
          simp only [Lib.indexByte, hb', h1, this, Bool.false_eq_true, if_false]
          omega
        · rcases List.mem_cons.1 hd with rfl | hd
          · exact hb
          · exact h3 d hd
        · rw [List.take_succ_cons, List.drop_succ_cons, List.cons_append, ← h4]
theorem splK_splitL (c : UInt8) : ∀ (k : Nat) (l : Nm), (splK c k l = splitL c l) ∨ ((splK c k l).length = k + 1 ∧ k + 1 < (splitL c l).length)
  | 0, l => by
    unfold splK
    rcases indexByte_cases c l with ⟨h1, h2⟩ | ⟨i, h1, h2, h3, h4⟩
    · exact .inl (split_no h2).symm
    · refine .inr ⟨rfl, ?_⟩
      rw [h4, split_at h3]
      have := List.length_pos_iff.2 (split_ne c (l.drop (i + 1)))
      simp only [List.length_cons]
      omega
  | k + 1, l => by
    unfold splK
    rcases indexByte_cases c l with ⟨h1, h2⟩ | ⟨i, h1, h2, h3, h4⟩
    · rw [if_neg (by omega)]
      exact .inl (split_no h2).symm
    · rw [if_pos (by omega), h1, Int.toNat_natCast]
      have e1 : splitL c l = l.take i :: splitL c (l.drop (i + 1)) := by
        conv => lhs; rw [h4]
        exact split_at h3
      rw [e1]
      rcases splK_splitL c k (l.drop (i + 1)) with h | ⟨ha, hb⟩
      · exact .inl (by rw [h])
      · exact .inr ⟨by simp only [List.length_cons]; omega, by simp only [List.length_cons]; omega⟩
theorem splN_splitL (c : UInt8) (l : Nm) : splN c l = splitL c l ∨ ((splN c l).length = 9 ∧ 9 < (splitL c l).length) := by
  unfold splN
  have hl := (split_len c l).1
  rcases splK_splitL c (min 9 (l.length + 1) - 1) l with h | ⟨ha, hb⟩
  · exact .inl h
  · exact .inr ⟨by omega, by omega⟩

theorem index_ok (l : Nm) (c : UInt8) (w : World) : Calls Tryd.prog 48 #[S l, S [c]] w fun e w' => e = .returned (I (Lib.indexByte l c)) ∧ Below w.heap.size w w' := by
  refine calls1 (args := [S l, S [c]]) Tryd.func48 rfl rfl rfl rfl ?_
  repeat' (first | refine aw_seq ?_ | refine zz ?_ | refine zon fun _ => ?_ | refine zoa fun vr lr hr => ?_ | ((first | apply ao_call | apply aq_call); exact wants_a; (first | exact oc_func rfl | exact oc_clos rfl rfl); (exact rfl); (first | exact fun w hw => Lab.stringslite_Index_ok l c w)) | refine zoS (fun _ => ?_) (fun _ => ?_) | refine zqS (fun _ => ?_) (fun _ => ?_) | refine zwS (fun _ => ?_) (fun _ => ?_))
  exact fun w' hw => ⟨rfl, hw.below⟩
theorem sl_flat (l : List Nm) : (l.flatMap cellsS).length = l.length := by induction l with
  | nil => rfl
  | cons a l ih => rw [List.flatMap_cons, List.length_append, ih]; show 1 + _ = _ + 1; omega
theorem take_snocS {cs : List Value} {i : Nat} {outs : List Nm} {x : Nm} (h : cs.take i = outs.flatMap cellsS) (hi : i < cs.length) : (cs.set i (S x)).take (i + 1) = (outs ++ [x]).flatMap cellsS := by
  rw [List.take_add_one, List.take_set_of_le (Nat.le_refl _), h, List.flatMap_append]
  simp [hi, cellsS]

set_option maxHeartbeats 16000000 in
theorem gensplit_ok (l : Nm) (c : UInt8) (hl : l.length ≤ 100000) (w : World) :
    Calls Tryd.prog 40 #[S l, S [c], I 0, I 9] w fun e w' => ∃ r, e = .returned r ∧ NewRow 9 1 w w' r (splN c l).length ((splN c l).flatMap cellsS) := by
  refine calls1 (args := [S l, S [c], I 0, I 9]) Tryd.func40 rfl rfl rfl rfl ?_
  have hne : ([c] == ([] : List UInt8)) = false := rfl
  obtain ⟨n, hn⟩ : ∃ n, n = min 9 (l.length + 1) := ⟨_, rfl⟩
  have hn9 : n ≤ 9 := by omega
  have hn1 : 1 ≤ n := by omega
  have hmin : (if ((l.length : Int) + 1) < 9 then ((l.length : Int) + 1) else 9) = (n : Int) := by split <;> omega
  repeat' (first | refine aw_seq ?_ | ((first | apply ao_val | apply aq_val); exact wants_a; (first | exact ov_minR _ rfl rfl hmin | exact ov_a); (exact rfl)) | refine zy ?_ | refine zon fun _ => ?_ | refine zoa fun vr lr hr => ?_ | refine zoS (fun _ => ?_) (fun _ => ?_) | refine zqS (fun _ => ?_) (fun _ => ?_) | refine zwS (fun _ => ?_) (fun _ => ?_))
  refine aw_for (t0 := [(0, S l), (1, S [c]), (2, I 0), (3, I ((n : Int) - 1)), (9, .slice (some ⟨_, 0, none⟩) n n), (10, I (0 : Nat))])
    (fun q t H => ∃ (b i : Nat) (cs : List Value) (outs : List Nm) (rest : Nm), q = n - i ∧ i + 1 ≤ n ∧ cs.length = n ∧ outs.length = i ∧ rest.length ≤ l.length ∧ cs.take i = outs.flatMap cellsS ∧ splN c l = outs ++ splK c (n - 1 - i) rest ∧
      t = [(0, S rest), (1, S [c]), (2, I 0), (3, I ((n : Int) - 1)), (9, .slice (some ⟨b, 0, none⟩) n n), (10, I i)] ∧ H = [(b, .cells cs.toArray 9 (0, 0))])
    ⟨_, 0, List.replicate n (S []), [], l, rfl, by omega, List.length_replicate, rfl, by omega, rfl, by unfold splN; rw [← hn]; rfl, rfl, rfl⟩ (by repeat (first | exact sub_nil | refine sub_cons rfl ?_)) ?_
  rintro q t H ⟨b, i, cs, outs, rest, rfl, hi, hcl, hol, hrl, htk, hsp, rfl, rfl⟩
  have last : splK c (n - 1 - i) rest = [rest] → ∃ h : (splN c l).length = i + 1, RowB 9 1 (.slice (some ⟨b, 0, none⟩) (splN c l).length n) [(b, .cells (cs.set (0 + (i : Int).toNat * 1) (S rest)).toArray 9 (0, 0))] (splN c l).length ((splN c l).flatMap cellsS) := fun h => by
    rw [hsp, h]
    have e1 : (outs ++ [rest]).length = i + 1 := by rw [List.length_append, hol]; rfl
    refine ⟨e1, by rw [sl_flat, Nat.mul_one], .inr ⟨b, n, _, rfl, rfl, by omega, by simp [hcl], ?_⟩⟩
    rw [e1, Nat.mul_one, show 0 + (i : Int).toNat * 1 = i by omega]
    exact take_snocS htk (by omega)
  by_cases hlt : i < n - 1
  · obtain ⟨k, hk⟩ : ∃ k, n - 1 - i = k + 1 := ⟨n - 1 - i - 1, by omega⟩
    rw [hk] at hsp last
    rcases indexByte_cases c rest with ⟨h1, h2⟩ | ⟨j, h1, h2, h3, h4⟩
    · obtain ⟨e1, hrow⟩ := last (by unfold splK; rw [if_neg (by omega)])
      rw [e1] at hrow ⊢
      have hix := fun w => index_ok rest c w
      rw [h1] at hix
      repeat' (first | refine aw_seq ?_ | ((first | apply ao_val | apply aq_val); exact wants_a; (first | exact ov_slhead (j := i + 1) rfl rfl rfl (by omega) | exact ov_a); (exact rfl)) | refine zy ?_ | refine zon fun _ => ?_ | refine zoa fun vr lr hr => ?_ | ((first | apply ao_call | apply aq_call); exact wants_a; (first | exact oc_func rfl | exact oc_clos rfl rfl); (exact rfl); (first | exact fun w hw => hix w)) | refine zoS (fun _ => ?_) (fun _ => ?_) | refine zqS (fun _ => ?_) (fun _ => ?_) | refine zwS (fun _ => ?_) (fun _ => ?_))
      exact fun w' hw => ⟨_, rfl, hw.below, _, hrow, fun b o hm => hw.at_ b o hm⟩
    · have hix := fun w => index_ok rest c w
      rw [h1] at hix
      have hc1 : ([c] : List UInt8).length = 1 := rfl
      repeat' (first | refine aw_seq ?_ | ((first | apply ao_val | apply aq_val); exact wants_a; (first | exact ov_sslice_hi rfl rfl (j := j) (by omega) (by omega) | exact ov_sslice_lo (i := j + 1) rfl rfl (by omega) (by omega) | exact ov_a); (exact rfl)) | refine zy ?_ | refine zon fun _ => ?_ | refine zoa fun vr lr hr => ?_ | ((first | apply ao_call | apply aq_call); exact wants_a; (first | exact oc_func rfl | exact oc_clos rfl rfl); (exact rfl); (first | exact fun w hw => hix w)) | refine zoS (fun _ => ?_) (fun _ => ?_) | refine zqS (fun _ => ?_) (fun _ => ?_) | refine zwS (fun _ => ?_) (fun _ => ?_))
      exact lq_normal' ⟨b, i + 1, cs.set (0 + (i : Int).toNat * 1) (S (rest.take j)), outs ++ [rest.take j], rest.drop (j + 1), rfl, by omega, by rw [List.length_set]; exact hcl, by rw [List.length_append, hol]; rfl, by rw [List.length_drop]; omega,
        by rw [show 0 + (i : Int).toNat * 1 = i by omega]; exact take_snocS htk (by omega),
        by
          rw [hsp, show n - 1 - (i + 1) = k by omega]
          conv => lhs; unfold splK
          rw [if_pos (by omega), h1, Int.toNat_natCast, List.append_assoc]
          rfl, rfl, rfl⟩ (by omega) (by repeat (first | exact sub_nil | refine sub_cons rfl ?_)) hsub_a
  · obtain rfl : i = n - 1 := by omega
    obtain ⟨e1, hrow⟩ := last (by rw [Nat.sub_self]; rfl)
    rw [e1] at hrow ⊢
    repeat' (first | refine aw_seq ?_ | ((first | apply ao_val | apply aq_val); exact wants_a; (first | exact ov_slhead (j := n - 1 + 1) rfl rfl rfl (by omega) | exact ov_a); (exact rfl)) | refine zy ?_ | refine zon fun _ => ?_ | refine zoa fun vr lr hr => ?_ | refine zoS (fun _ => ?_) (fun _ => ?_) | refine zqS (fun _ => ?_) (fun _ => ?_) | refine zwS (fun _ => ?_) (fun _ => ?_))
    exact fun w' hw => ⟨_, rfl, hw.below, _, hrow, fun b o hm => hw.at_ b o hm⟩
theorem splitn_ok (l : Nm) (c : UInt8) (hl : l.length ≤ 100000) (w : World) :
    Calls Tryd.prog 30 #[S l, S [c], I 9] w fun e w' => ∃ r, e = .returned r ∧ NewRow 9 1 w w' r (splN c l).length ((splN c l).flatMap cellsS) := by
  refine calls1 (args := [S l, S [c], I 9]) Tryd.func30 rfl rfl rfl rfl ?_
  repeat' (first | refine aw_seq ?_ | refine zz ?_ | refine zon fun _ => ?_ | refine zoa fun vr lr hr => ?_ | (apply ao_callr; exact wants_a; (exact oc_func rfl); (exact rfl); (first | exact fun w hw => gensplit_ok l c hl w); intro vr lr hr) | refine zoS (fun _ => ?_) (fun _ => ?_) | refine zqS (fun _ => ?_) (fun _ => ?_) | refine zwS (fun _ => ?_) (fun _ => ?_))
  exact fun w' hw => ⟨_, rfl, hw.below, _, hr, fun b o hm => hw.at_ b o (List.mem_append_left _ hm)⟩
end Scp
end Go.Proofs.YtlokhemlpmalaaaDoor
