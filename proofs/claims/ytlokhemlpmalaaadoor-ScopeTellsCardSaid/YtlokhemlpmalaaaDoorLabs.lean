/- More contracts of the document's answer for layer 1; conditions: texts of at most 100000 bytes. -/
import Derived.Test.YtlokhemlpmalaaaDoorLabr
namespace Go.Proofs.YtlokhemlpmalaaaDoor
namespace Lab
open Go Go.RowKit Sx
attribute [local irreducible] Go.Calls

/-- How many bytes stand ahead of the first slash. -/
def nxt (l : List UInt8) : Nat := (l.takeWhile (fun c => c != 47)).length
theorem nxt_le (l : List UInt8) : nxt l ≤ l.length := by
  unfold nxt
  exact (List.takeWhile_sublist _).length_le
theorem nxt_of : ∀ (l : List UInt8) (n : Nat), (∀ j c, j < n → l[j]? = some c → c ≠ 47) → (n = l.length ∨ l[n]? = some 47) → nxt l = n
  | [], n, _, h => by
    rcases h with h | h
    · simpa [nxt] using h.symm
    · simp at h
  | c :: l, 0, _, h => by
    rcases h with h | h
    · simp at h
    · simp at h; simp [nxt, h]
  | c :: l, n + 1, h1, h => by
    have hc : c ≠ 47 := h1 0 c (by omega) rfl
    have ih := nxt_of l n (fun j d hj hd => h1 (j + 1) d (by omega) (by simpa using hd)) (by simpa using h)
    unfold nxt at ih ⊢
    rw [List.takeWhile_cons_of_pos (by simpa using hc)]
    simp [ih]
theorem indexByte_nxt : ∀ (l : List UInt8), Lib.indexByte l 47 = if nxt l < l.length then (nxt l : Int) else -1
  | [] => rfl
  | c :: l => by
    have ih := indexByte_nxt l
    by_cases hc : c = 47
    · subst hc; simp [Lib.indexByte, nxt]
    · have hn : nxt (c :: l) = nxt l + 1 := by
        unfold nxt
        rw [List.takeWhile_cons_of_pos (by simpa using hc)]
        rfl
      have hc' : (c == 47) = false := by simpa using hc
      unfold Lib.indexByte
      rw [hn, hc', ih]
      simp only [Bool.false_eq_true, if_false, List.length_cons]
      by_cases hl : nxt l < l.length
      · have h2 : nxt l + 1 < l.length + 1 := by omega
        have : ((nxt l : Int) == -1) = false := by rw [beq_eq_false_iff_ne]; omega
        simp only [hl, h2, if_true, this, Bool.false_eq_true, if_false]
        omega
      · have h2 : ¬ nxt l + 1 < l.length + 1 := by omega
        simp only [hl, h2, if_false]
        rfl

def noSl (l : List UInt8) (k i : Nat) : Prop := ∀ j c, k ≤ j → j < i → l[j]? = some c → c ≠ 47
theorem noSl_nxt {l : List UInt8} {k i : Nat} (h : noSl l k i) (hk : k ≤ i) (hi : i = l.length ∨ l[i]? = some 47) (_hl : i ≤ l.length) : i = k + nxt (l.drop k) := by
  have := nxt_of (l.drop k) (i - k) (fun j c hj hc => h (k + j) c (by omega) (by omega) (by simpa using hc)) (by
    rcases hi with hi | hi
    · left; simp; omega
    · right; rw [List.getElem?_drop, show k + (i - k) = i by omega]; exact hi)
  omega

theorem bytesLess_drop {a b : List UInt8} {i : Nat} {x y : UInt8} (hx : a[i]? = some x) (hy : b[i]? = some y) : Op.bytesLess (a.drop i) (b.drop i) = (decide (x < y) || (x == y && Op.bytesLess (a.drop (i + 1)) (b.drop (i + 1)))) := by
  have h1 := (List.getElem?_eq_some_iff.1 hx)
  have h2 := (List.getElem?_eq_some_iff.1 hy)
  obtain ⟨l1, e1⟩ := h1
  obtain ⟨l2, e2⟩ := h2
  rw [List.drop_eq_getElem_cons l1, List.drop_eq_getElem_cons l2, e1, e2]
  rfl
theorem bytesLess_end {a b : List UInt8} {i : Nat} (h : a.length ≤ i ∨ b.length ≤ i) (ha : i ≤ a.length) (hb : i ≤ b.length) : Op.bytesLess (a.drop i) (b.drop i) = decide ((a.length : Int) < (b.length : Int)) := by
  by_cases h2 : b.length ≤ i
  · rw [List.drop_of_length_le h2]
    have : ¬ ((a.length : Int) < (b.length : Int)) := by omega
    simp [Op.bytesLess, this]
  · rw [List.drop_of_length_le (l := a) (by omega), List.drop_eq_getElem_cons (by omega : i < b.length)]
    have : ((a.length : Int) < (b.length : Int)) := by omega
    simp [Op.bytesLess]
    omega

set_option maxHeartbeats 800000 in
theorem before_ok (a b : List UInt8) (ha : a.length ≤ 100000) (hb : b.length ≤ 100000) (w : World) : Calls Tryd.prog 35 #[S a, S b] w fun e w' => e = .returned (.bool (Op.bytesLess a b)) ∧ Below w.heap.size w w' := by
  refine calls1 (args := [S a, S b]) Tryd.func35 rfl rfl rfl rfl ?_
  repeat' (first | refine aw_seq ?_ | refine zz ?_ | refine zon fun _ => ?_ | refine zoa fun vr lr hr => ?_ | refine zoS (fun _ => ?_) (fun _ => ?_) | refine zqS (fun _ => ?_) (fun _ => ?_) | refine zwS (fun _ => ?_) (fun _ => ?_))
  refine aw_for (t0 := [(0, S a), (1, S b), (5, I (0 : Nat))]) (fun m t H => ∃ i : Nat, m = a.length - i ∧ i ≤ a.length ∧ i ≤ b.length ∧ Op.bytesLess (a.drop i) (b.drop i) = Op.bytesLess a b ∧ t = [(0, S a), (1, S b), (5, I i)] ∧ H = []) ⟨0, rfl, by omega, by omega, rfl, rfl, rfl⟩ (by repeat (first | exact sub_nil | refine sub_cons rfl ?_)) ?_
  rintro m t H ⟨i, rfl, h1, h2, he, rfl, rfl⟩
  by_cases h3 : i < a.length
  · by_cases h4 : i < b.length
    · have hx : a[i]? = some a[i] := by simp [h3]
      have hy : b[i]? = some b[i] := by simp [h4]
      generalize a[i] = x at hx
      generalize b[i] = y at hy
      rw [bytesLess_drop hx hy] at he
      by_cases hxy : x = y
      · have hne : ((x.toNat : Int) != (y.toNat : Int)) = false := by subst hxy; simp
        repeat' (first | refine aw_seq ?_ | ((first | apply ao_val | apply aq_val); exact wants_a; (first | exact ov_sindex rfl rfl hx (by omega) | exact ov_sindex rfl rfl hy (by omega) | exact ov_a); (exact rfl)) | refine zy ?_ | refine zon fun _ => ?_ | refine zoa fun vr lr hr => ?_ | refine zoS (fun _ => ?_) (fun _ => ?_) | refine zqS (fun _ => ?_) (fun _ => ?_) | refine zwS (fun _ => ?_) (fun _ => ?_))
        refine lq_normal ⟨i + 1, rfl, by omega, by omega, ?_, rfl, rfl⟩ (by omega) (by repeat (first | exact sub_nil | refine sub_cons rfl ?_))
        rw [← he]
        subst hxy
        simp
      · have hne : ((x.toNat : Int) != (y.toNat : Int)) = true := by
          rw [bne_iff_ne]; intro h; exact hxy (UInt8.toNat.inj (by omega))
        repeat' (first | refine aw_seq ?_ | ((first | apply ao_val | apply aq_val); exact wants_a; (first | exact ov_sindex rfl rfl hx (by omega) | exact ov_sindex rfl rfl hy (by omega) | exact ov_a); (exact rfl)) | refine zy ?_ | refine zon fun _ => ?_ | refine zoa fun vr lr hr => ?_ | refine zoS (fun _ => ?_) (fun _ => ?_) | refine zqS (fun _ => ?_) (fun _ => ?_) | refine zwS (fun _ => ?_) (fun _ => ?_))
        refine ret_bool ?_
        rw [← he]
        have : (x == y) = false := by simpa using hxy
        rw [this]
        simp only [Bool.false_and, Bool.or_false, UInt8.lt_iff_toNat_lt]
        simp
    · rw [bytesLess_end (.inr (by omega)) h1 h2] at he
      repeat' (first | refine aw_seq ?_ | refine zz ?_ | refine zon fun _ => ?_ | refine zoa fun vr lr hr => ?_ | refine zoS (fun _ => ?_) (fun _ => ?_) | refine zqS (fun _ => ?_) (fun _ => ?_) | refine zwS (fun _ => ?_) (fun _ => ?_))
      exact ret_bool he
  · rw [bytesLess_end (.inl (by omega)) h1 h2] at he
    repeat' (first | refine aw_seq ?_ | refine zz ?_ | refine zon fun _ => ?_ | refine zoa fun vr lr hr => ?_ | refine zoS (fun _ => ?_) (fun _ => ?_) | refine zqS (fun _ => ?_) (fun _ => ?_) | refine zwS (fun _ => ?_) (fun _ => ?_))
    exact ret_bool he

theorem cut_nxt (l : List UInt8) : (if 0 ≤ Lib.indexByte l 47 then (l.take (Lib.indexByte l 47).toNat, l.drop ((Lib.indexByte l 47).toNat + 1)) else (l, [])) = if nxt l < l.length then (l.take (nxt l), l.drop (nxt l + 1)) else (l, []) := by
  rw [indexByte_nxt]
  by_cases h : nxt l < l.length
  · simp [h]
  · simp [h]
theorem pieces_nxt (l : List UInt8) : pieces l = if nxt l < l.length then (l.take (nxt l), if nxt (l.drop (nxt l + 1)) < (l.drop (nxt l + 1)).length then ((l.drop (nxt l + 1)).take (nxt (l.drop (nxt l + 1))), (l.drop (nxt l + 1)).drop (nxt (l.drop (nxt l + 1)) + 1)) else (l.drop (nxt l + 1), [])) else (l, [], []) := by
  simp only [pieces, cut_nxt]
  by_cases h : nxt l < l.length
  · simp only [h, if_true]
  · simp only [h, if_false]
    rfl

theorem parseV_f {l a c d : List UInt8} (hp : pieces l = (a, c, d)) (hq : keyB c a d = false) : parseV l = .tuple #[K3 [] [] [], I 2] := by
  simp only [parseV, hp, hq]; rfl
theorem parseV_t {l a c d : List UInt8} (hp : pieces l = (a, c, d)) (hq : keyB c a d = true) : parseV l = .tuple #[K3 c a d, I 0] := by
  simp only [parseV, hp, hq]; rfl
theorem keyB_nil (k s : List UInt8) : keyB k s [] = false := by simp [keyB, rightB]

end Lab
end Go.Proofs.YtlokhemlpmalaaaDoor
