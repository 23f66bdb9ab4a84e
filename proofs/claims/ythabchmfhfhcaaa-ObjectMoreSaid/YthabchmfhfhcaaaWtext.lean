/- Contracts of package wide's functions: size, the closure that tells figures, Text; conditions: none. -/
import Derived.Test.YthabchmfhfhcaaaWdiv
import Derived.Test.YthabchmfhfhcaaaWdig
namespace Go.Proofs.Ythabchmfhfhcaaa
namespace Wid
open Go Go.RowKit Sx
attribute [local irreducible] Go.Calls

set_option maxHeartbeats 1000000 in
theorem size_ok (hi lo : Int) (hW : isW hi lo) (w : World) :
    Calls Try.prog 49 #[W2 hi lo] w fun e w' => e = .returned (.tuple #[U ((num hi lo).natAbs / 18446744073709551616), U ((num hi lo).natAbs % 18446744073709551616)]) ∧ Below w.heap.size w w' := by
  obtain ⟨a1, a2, a3, a4⟩ := hW
  refine calls2 (args := [W2 hi lo]) Try.func49 rfl rfl rfl rfl ?_
  by_cases h : hi < 0
  · have hd : (!decide (hi < 0)) = false := by simp [h]
    repeat' (first | refine aw_seq ?_ | ((first | apply ao_val | apply aq_val); exact wants_a; (first | exact ov_sub64 rfl (by omega) | exact ov_sub64 rfl (by split <;> omega) | exact ov_a); (exact rfl)) | refine zy ?_ | refine zon fun _ => ?_ | refine zoa fun vr lr hr => ?_ | ((first | apply ao_call | apply aq_call); exact wants_a; (first | exact oc_func rfl | exact oc_clos rfl rfl); (exact rfl); (first | exact fun w hw => below_ok _ _ w)) | refine zoS (fun _ => ?_) (fun _ => ?_) | refine zqS (fun _ => ?_) (fun _ => ?_) | refine zwS (fun _ => ?_) (fun _ => ?_))
    refine fun w' hw => ⟨?_, hw.below⟩
    have hc0 : (if 0 < lo + 0 then (1 : Int) else 0) = 1 ∧ 0 < lo ∨ (if 0 < lo + 0 then (1 : Int) else 0) = 0 ∧ lo = 0 := by split <;> omega
    generalize (if 0 < lo + 0 then (1 : Int) else 0) = c at *
    have e1 : (0 - hi % 18446744073709551616 - c) % 18446744073709551616 = ((num hi lo).natAbs : Int) / 18446744073709551616 := by unfold num; omega
    have e2 : (0 - lo - 0) % 18446744073709551616 = ((num hi lo).natAbs : Int) % 18446744073709551616 := by unfold num; omega
    rw [e1, e2]
  · have hd : (!decide (hi < 0)) = true := by simp [h]
    repeat' (first | refine aw_seq ?_ | refine zz ?_ | refine zon fun _ => ?_ | refine zoa fun vr lr hr => ?_ | ((first | apply ao_call | apply aq_call); exact wants_a; (first | exact oc_func rfl | exact oc_clos rfl rfl); (exact rfl); (first | exact fun w hw => below_ok _ _ w)) | refine zoS (fun _ => ?_) (fun _ => ?_) | refine zqS (fun _ => ?_) (fun _ => ?_) | refine zwS (fun _ => ?_) (fun _ => ?_))
    refine fun w' hw => ⟨?_, hw.below⟩
    have e1 : hi = ((num hi lo).natAbs : Int) / 18446744073709551616 := by unfold num; omega
    have e2 : lo = ((num hi lo).natAbs : Int) % 18446744073709551616 := by unfold num; omega
    rw [← e1, ← e2]

abbrev UW (N : Int) (e : TypeId) : Obj := .cells #[U N] e (0, 0)
abbrev B8 (n : Int) : Value := .int .u8 n

set_option maxHeartbeats 2000000 in
theorem fig_ok (E : Env) (bh bl : Nat) (N : Int) (h0 : 0 ≤ N) (h1 : N < 340282366920938463463374607431768211456) :
    CallsF Try.prog E 50 [.pointer (some ⟨bh, 0, none⟩), .pointer (some ⟨bl, 0, none⟩)] [(bh, UW (N / 18446744073709551616) 38), (bl, UW (N % 18446744073709551616) 38)]
      (B8 (48 + dig N 0)) [(bh, UW (N / 10 / 18446744073709551616) 38), (bl, UW (N / 10 % 18446744073709551616) 38)] := by
  intro R
  obtain ⟨B, w0, m⟩ := E
  refine callsH1 Try.func50 rfl rfl rfl rfl ?_
  have hd := dig_rng N 0
  have h10 : dig N 0 = N % 10 := by unfold dig; simp
  repeat' (first | refine aw_seq ?_ | ((first | apply ao_val | apply aq_val); exact wants_a; (first | exact ov_convR (dig N 0) rfl (by rw [wrap_u8 (by omega) (by omega)]; omega) | exact ov_addR (48 + dig N 0) rfl rfl (wrap_u8 (by omega) (by omega)) | exact ov_a); (exact rfl)) | refine zy ?_ | refine zon fun _ => ?_ | refine zoa fun vr lr hr => ?_ | ((first | apply ao_call | apply aq_call); exact wants_a; (first | exact oc_func rfl | exact oc_clos rfl rfl); (exact rfl); (first | exact fun w hw => div_ok _ _ (by omega) (by omega) (by omega) (by omega) w)) | refine zoS (fun _ => ?_) (fun _ => ?_) | refine zqS (fun _ => ?_) (fun _ => ?_) | refine zwS (fun _ => ?_) (fun _ => ?_))
  refine ⟨rfl, ?_⟩
  have e1 : (0 * 18446744073709551616 + N / 18446744073709551616) / 10 = N / 10 / 18446744073709551616 := by omega
  have e2 : ((0 * 18446744073709551616 + N / 18446744073709551616) % 10 * 18446744073709551616 + N % 18446744073709551616) / 10 = N / 10 % 18446744073709551616 := by omega
  rw [e1, e2]
  rfl

/-- Text's list, with j figures told, from the end on. -/
def TxtInv (cs : List Value) (N : Int) (j : Nat) : Prop := cs.length = 40 ∧ cs.drop (40 - j) = ((digL N j).map fun d => B8 (48 + d)).reverse
theorem drop_set {cs : List Value} {i : Nat} {v : Value} (h : i < cs.length) : (cs.set i v).drop i = v :: cs.drop (i + 1) := by
  rw [List.drop_eq_getElem_cons (by simpa using h), List.drop_set_of_lt (by omega)]
  simp
theorem txtInv_zero {cs : List Value} {N : Int} (h : cs.length = 40) : TxtInv cs N 0 := ⟨h, by simp [digL, h]⟩
theorem txtInv_succ {cs : List Value} {N : Int} {j i : Nat} (h : TxtInv cs N j) (hj : j < 40) (hi : i = 39 - j) : TxtInv (cs.set i (B8 (48 + dig N j))) N (j + 1) := by
  subst hi
  obtain ⟨h1, h2⟩ := h
  refine ⟨by simpa using h1, ?_⟩
  rw [show 40 - (j + 1) = 39 - j by omega, drop_set (by omega), show 39 - j + 1 = 40 - j by omega, h2, digL_succ]
  simp

theorem txt_cells (V : Int) (L : Nat) : (((digL V L).map fb).reverse).map (fun c => B8 (c.toNat : Int)) = ((digL V L).map fun d => B8 (48 + d)).reverse := by
  rw [List.map_reverse]
  congr 1
  simp [digL, fb_nat]
theorem txt_neg {X : Int} (h : X < 0) (L : Nat) : txt X L = 45 :: ((digL X.natAbs L).map fb).reverse := by unfold txt; rw [if_pos h]; rfl
theorem txt_pos {X : Int} (h : ¬ X < 0) (L : Nat) : txt X L = ((digL X.natAbs L).map fb).reverse := by unfold txt; rw [if_neg h]; rfl

set_option maxHeartbeats 4000000 in
theorem text_ok (hi lo : Int) (L : Nat) (hW : isW hi lo) (hL : IsLen (num hi lo).natAbs L) (w : World) :
    Calls Try.prog 39 #[W2 hi lo] w fun e w' => e = .returned (S (txt (num hi lo) L)) ∧ Below w.heap.size w w' := by
  have hin := num_inW hW
  unfold inW at hin
  obtain ⟨N, hN⟩ : ∃ N : Int, ((num hi lo).natAbs : Int) = N := ⟨_, rfl⟩
  have hN0 : 0 ≤ N := by omega
  have hN1 : N < 340282366920938463463374607431768211456 := by omega
  have h39 : N / 10 ^ 39 = 0 := by
    rw [show (10 : Int) ^ 39 = 1000000000000000000000000000000000000000 by decide]; omega
  rw [hN] at hL
  have hL39 := len_le hL (by decide) h39
  have hsz := size_ok hi lo hW
  rw [hN] at hsz
  refine calls1 (args := [W2 hi lo]) Try.func39 rfl rfl rfl rfl ?_
  have hfirst : TxtInv ([B8 0, B8 0, B8 0, B8 0, B8 0, B8 0, B8 0, B8 0, B8 0, B8 0, B8 0, B8 0, B8 0, B8 0, B8 0, B8 0, B8 0, B8 0, B8 0, B8 0, B8 0, B8 0, B8 0, B8 0, B8 0, B8 0, B8 0, B8 0, B8 0, B8 0, B8 0, B8 0, B8 0, B8 0, B8 0, B8 0, B8 0, B8 0, B8 0] ++ [B8 (48 + dig N 0)]) N 1 := ⟨rfl, rfl⟩
  repeat' (first | refine aw_seq ?_ | refine zz ?_ | refine zon fun _ => ?_ | refine zoa fun vr lr hr => ?_ | ((first | apply ao_call | apply aq_call); exact wants_a; (first | exact oc_func rfl | exact oc_clos rfl rfl); (exact rfl); (first | exact fun w hw => hsz w)) | (apply ao_callF; exact wants_a; (first | exact oc_func rfl | exact oc_clos rfl rfl); (exact rfl); (first | exact fig_ok _ _ _ N hN0 hN1); exact cuts_a; intro _ hH; simp only [List.cons_append, List.nil_append] at hH; subst hH) | refine zoS (fun _ => ?_) (fun _ => ?_) | refine zqS (fun _ => ?_) (fun _ => ?_) | refine zwS (fun _ => ?_) (fun _ => ?_))
  refine aw_forH (H0 := [(_, UW (N / 10 / 18446744073709551616) 38), (_, UW (N / 10 % 18446744073709551616) 38), (_, .cells _ 74), (_, .cells #[I hi, U lo] 40)]) (t0 := [(1, .pointer (some ⟨_, 0, none⟩)), (3, .pointer (some ⟨_, 0, none⟩)), (4, .pointer (some ⟨_, 0, none⟩)), (5, .func (.func 50) #[] #[.pointer (some ⟨_, 0, none⟩), .pointer (some ⟨_, 0, none⟩)]), (6, .pointer (some ⟨_, 0, none⟩)), (7, I (40 - (1 : Nat)))]) (fun q t H => ∃ (ba bh bl bw j : Nat) (cs : List Value), q = 40 - j ∧ 1 ≤ j ∧ j ≤ L ∧ TxtInv cs N j ∧ t = [(1, .pointer (some ⟨bw, 0, none⟩)), (3, .pointer (some ⟨bh, 0, none⟩)), (4, .pointer (some ⟨bl, 0, none⟩)), (5, .func (.func 50) #[] #[.pointer (some ⟨bh, 0, none⟩), .pointer (some ⟨bl, 0, none⟩)]), (6, .pointer (some ⟨ba, 0, none⟩)), (7, I (40 - (j : Int)))] ∧ H = [(bh, UW (N / 10 ^ j / 18446744073709551616) 38), (bl, UW (N / 10 ^ j % 18446744073709551616) 38), (ba, .cells cs.toArray 74), (bw, .cells #[I hi, U lo] 40)]) ⟨_, _, _, _, 1, _, rfl, by decide, hL.1, hfirst, rfl, by rw [Int.pow_one]⟩ (by repeat (first | exact sub_nil | refine sub_cons rfl ?_)) hsub_a ?_
  rintro q t H ⟨ba, bh, bl, bw, j, cs, rfl, hj1, hjL, hinv, rfl, rfl⟩
  obtain ⟨hlen, hdrop⟩ := id hinv
  have hz0 : 0 ≤ N / 10 ^ j := Int.ediv_nonneg hN0 (Int.le_of_lt (ten_pos j))
  have hz1 : N / 10 ^ j < 340282366920938463463374607431768211456 := Int.lt_of_le_of_lt (Int.ediv_le_self _ hN0) hN1
  by_cases hz : N / 10 ^ j = 0
  · obtain rfl : j = L := by have := len_le hL hj1 hz; omega
    by_cases hneg : hi < 0
    · have hat : ((40 : Int) - j - 1).toNat = 39 - j := by omega
      have hX : num hi lo < 0 := by unfold isW at hW; unfold num; omega
      have hn1 : 40 - (39 - j) = (txt (num hi lo) j).length := by rw [txt_neg hX]; simp [digL_len]; omega
      have hc1 : ((cs.set (0 + ((40 : Int) - j - 1).toNat * 1) (B8 45)).drop (39 - j)).take (40 - (39 - j)) = (txt (num hi lo) j).map fun c => B8 (c.toNat : Int) := by
        rw [List.take_of_length_le (by simp; omega), hat, Nat.zero_add, Nat.mul_one, drop_set (by omega), show 39 - j + 1 = 40 - j by omega, hdrop, txt_neg hX, hN, List.map_cons, txt_cells]
        rfl
      repeat' (first | refine aw_seq ?_ | ((first | apply ao_val | apply aq_val); exact wants_a; (first | exact ov_slarr_lo rfl rfl (n := 39 - j) (by omega) (by omega) | exact ov_b2s rfl (by solve | (repeat (first | exact Has.head | apply Has.tail | apply Has.appR))) hn1 hc1 | exact ov_a); (exact rfl)) | refine zy ?_ | refine zon fun _ => ?_ | refine zoa fun vr lr hr => ?_ | ((first | apply ao_call | apply aq_call); exact wants_a; (first | exact oc_func rfl | exact oc_clos rfl rfl); (exact rfl); (first | exact fun w hw => below_ok _ _ w)) | refine zoS (fun _ => ?_) (fun _ => ?_) | refine zqS (fun _ => ?_) (fun _ => ?_) | refine zwS (fun _ => ?_) (fun _ => ?_))
      exact fun w' hw => ⟨rfl, hw.below⟩
    · have hX : ¬ num hi lo < 0 := by unfold isW at hW; unfold num; omega
      have hn1 : 40 - (40 - j) = (txt (num hi lo) j).length := by rw [txt_pos hX]; simp [digL_len]; omega
      have hc1 : (cs.drop (40 - j)).take (40 - (40 - j)) = (txt (num hi lo) j).map fun c => B8 (c.toNat : Int) := by
        rw [List.take_of_length_le (by simp; omega), hdrop, txt_pos hX, hN, txt_cells]
      repeat' (first | refine aw_seq ?_ | ((first | apply ao_val | apply aq_val); exact wants_a; (first | exact ov_slarr_lo rfl rfl (n := 40 - j) (by omega) (by omega) | exact ov_b2s rfl (by solve | (repeat (first | exact Has.head | apply Has.tail | apply Has.appR))) hn1 hc1 | exact ov_a); (exact rfl)) | refine zy ?_ | refine zon fun _ => ?_ | refine zoa fun vr lr hr => ?_ | ((first | apply ao_call | apply aq_call); exact wants_a; (first | exact oc_func rfl | exact oc_clos rfl rfl); (exact rfl); (first | exact fun w hw => below_ok _ _ w)) | refine zoS (fun _ => ?_) (fun _ => ?_) | refine zqS (fun _ => ?_) (fun _ => ?_) | refine zwS (fun _ => ?_) (fun _ => ?_))
      exact fun w' hw => ⟨rfl, hw.below⟩
  · have hd0 : dig (N / 10 ^ j) 0 = dig N j := by unfold dig; simp
    have hfig := fun E bh bl => fig_ok E bh bl (N / 10 ^ j) hz0 hz1
    rw [hd0] at hfig
    have hj : j < L := by
      rcases Nat.lt_or_ge j L with h | h
      · exact h
      · have : j = L := by omega
        subst this; exact absurd hL.2.1 hz
    have hnext := txtInv_succ (i := 0 + ((40 : Int) - j - 1).toNat * 1) hinv (by omega) (by omega)
    have hor : N / 10 ^ j / 18446744073709551616 = 0 → N / 10 ^ j % 18446744073709551616 ≠ 0 := by omega
    rw [← div_ten] at hfig
    generalize N / 10 ^ j / 18446744073709551616 = zh at *
    generalize N / 10 ^ j % 18446744073709551616 = zl at *
    by_cases hzh : zh = 0
    · have := hor hzh
      repeat' (first | refine aw_seq ?_ | refine zz ?_ | refine zon fun _ => ?_ | refine zoa fun vr lr hr => ?_ | (apply ao_callF; exact wants_a; (first | exact oc_func rfl | exact oc_clos rfl rfl); (exact rfl); (first | exact hfig _ _ _); exact cuts_a; intro _ hH; simp only [List.cons_append, List.nil_append] at hH; subst hH) | refine zoS (fun _ => ?_) (fun _ => ?_) | refine zqS (fun _ => ?_) (fun _ => ?_) | refine zwS (fun _ => ?_) (fun _ => ?_))
      exact lq_normal' ⟨ba, bh, bl, bw, j + 1, _, rfl, by omega, by omega, hnext, rfl, rfl⟩ (by omega) (by exact sub_cons rfl (sub_cons rfl (sub_cons rfl (sub_cons rfl (sub_cons rfl (sub_cons' rfl (congrArg I (by omega)) sub_nil)))))) hsub_a
    · repeat' (first | refine aw_seq ?_ | refine zz ?_ | refine zon fun _ => ?_ | refine zoa fun vr lr hr => ?_ | (apply ao_callF; exact wants_a; (first | exact oc_func rfl | exact oc_clos rfl rfl); (exact rfl); (first | exact hfig _ _ _); exact cuts_a; intro _ hH; simp only [List.cons_append, List.nil_append] at hH; subst hH) | refine zoS (fun _ => ?_) (fun _ => ?_) | refine zqS (fun _ => ?_) (fun _ => ?_) | refine zwS (fun _ => ?_) (fun _ => ?_))
      exact lq_normal' ⟨ba, bh, bl, bw, j + 1, _, rfl, by omega, by omega, hnext, rfl, rfl⟩ (by omega) (by exact sub_cons rfl (sub_cons rfl (sub_cons rfl (sub_cons rfl (sub_cons rfl (sub_cons' rfl (congrArg I (by omega)) sub_nil)))))) hsub_a
end Wid
end Go.Proofs.Ythabchmfhfhcaaa
