/- Whole numbers and their bits: plain facts, of no program; conditions: none. -/
import Derived.WalkKit
import Derived.Test.YtkjjlppfomidbaaGreatTy
import Derived.Test.YtkjjlppfomidbaaGreatSxz
/- Wmath: Whole numbers and their bits: plain facts, of no program; conditions: none. -/
namespace Go.Proofs.YtkjjlppfomidbaaGreat
namespace Wid
def bit (V : Int) (i : Nat) : Int := (V / 2 ^ i) % 2
theorem bit_01 (V : Int) (i : Nat) : bit V i = 0 ∨ bit V i = 1 := by unfold bit; omega
theorem pow_pos2 (i : Nat) : (0 : Int) < 2 ^ i := Int.pow_pos (by decide)
theorem dd (a : Int) {b : Int} (c : Int) (h : 0 ≤ b) : a / b / c = a / (b * c) := by
  rw [Int.ediv_ediv, if_neg (by omega)]; simp
theorem div_pow_succ (V : Int) (i : Nat) : V / 2 ^ (i + 1) = (V / 2 ^ i) / 2 := by
  rw [Int.pow_succ, dd _ _ (Int.le_of_lt (pow_pos2 i))]
theorem bit_low (hi lo : Int) (i : Nat) (h : i < 64) : bit (hi * 18446744073709551616 + lo) i = (lo / 2 ^ i) % 2 := by
  unfold bit
  have e : (18446744073709551616 : Int) = 2 ^ i * (2 * 2 ^ (63 - i)) := by
    have : (2 : Int) ^ i * (2 * 2 ^ (63 - i)) = 2 ^ (i + (1 + (63 - i))) := by rw [Int.pow_add, Int.pow_add]; simp
    rw [this, show i + (1 + (63 - i)) = 64 by omega]; rfl
  have e2 : hi * 18446744073709551616 + lo = lo + 2 ^ i * (hi * (2 * 2 ^ (63 - i))) := by
    rw [e, ← Int.mul_assoc, Int.mul_comm hi, Int.mul_assoc, Int.add_comm]
  rw [e2, Int.add_mul_ediv_left _ _ (Int.ne_of_gt (pow_pos2 i))]
  have : hi * (2 * 2 ^ (63 - i)) = 2 * (hi * 2 ^ (63 - i)) := by rw [← Int.mul_assoc, Int.mul_comm hi 2, Int.mul_assoc]
  omega
theorem bit_high (hi lo : Int) (i : Nat) (h0 : 0 ≤ lo) (h1 : lo < 18446744073709551616) : bit (hi * 18446744073709551616 + lo) (64 + i) = (hi / 2 ^ i) % 2 := by
  unfold bit
  rw [Int.pow_add, ← dd _ _ (by decide)]
  have : (hi * 18446744073709551616 + lo) / 2 ^ 64 = hi := by
    show (hi * 18446744073709551616 + lo) / 18446744073709551616 = hi
    omega
  rw [this]
theorem bit_mod (hi : Int) (i : Nat) (h : i < 64) : ((hi % 18446744073709551616) / 2 ^ i) % 2 = (hi / 2 ^ i) % 2 := by
  have := bit_low (hi / 18446744073709551616) (hi % 18446744073709551616) i h
  unfold bit at this
  rw [← this]
  congr 2
  omega
theorem bit_sign (V : Int) (i : Nat) (h0 : -170141183460469231731687303715884105728 ≤ V) (h1 : V < 170141183460469231731687303715884105728) (hi : 127 ≤ i) : bit V i = bit V 127 := by
  unfold bit
  have e : (2 : Int) ^ i = 170141183460469231731687303715884105728 * 2 ^ (i - 127) := by
    have : (2 : Int) ^ 127 * 2 ^ (i - 127) = 2 ^ (127 + (i - 127)) := by rw [Int.pow_add]
    rw [show (170141183460469231731687303715884105728 : Int) = 2 ^ 127 from rfl, this, show 127 + (i - 127) = i by omega]
  rw [e, ← dd _ _ (by decide), show (2 : Int) ^ 127 = 170141183460469231731687303715884105728 from rfl]
  have hp := pow_pos2 (i - 127)
  by_cases hv : 0 ≤ V
  · have : V / 170141183460469231731687303715884105728 = 0 := by omega
    rw [this, Int.zero_ediv]
  · have : V / 170141183460469231731687303715884105728 = -1 := by omega
    rw [this, Int.neg_one_ediv, Int.sign_eq_one_of_pos hp]
def car (X Y c : Int) (i : Nat) : Int := (X % 2 ^ i + Y % 2 ^ i + c) / 2 ^ i
theorem mod_pow_succ (X : Int) (i : Nat) : X % 2 ^ (i + 1) = 2 ^ i * bit X i + X % 2 ^ i := by
  have hp := pow_pos2 i
  have h1 := Int.mul_ediv_add_emod X (2 ^ i)
  have h2 := Int.mul_ediv_add_emod X (2 ^ (i + 1))
  have h3 : (X / 2 ^ i) = 2 * (X / 2 ^ (i + 1)) + bit X i := by
    rw [div_pow_succ]
    unfold bit
    omega
  have h4 : (2 : Int) ^ (i + 1) * (X / 2 ^ (i + 1)) = 2 ^ i * (2 * (X / 2 ^ (i + 1))) := by
    rw [Int.pow_succ, Int.mul_assoc]
  rw [h3, Int.mul_add] at h1
  rw [h4] at h2
  omega
theorem car_zero (X Y c : Int) : car X Y c 0 = c := by simp [car, Int.emod_one]
theorem car_01 (X Y c : Int) (i : Nat) (hc : c = 0 ∨ c = 1) : 0 ≤ car X Y c i ∧ car X Y c i ≤ 1 := by
  have hp := pow_pos2 i
  have hx := Int.emod_nonneg X (Int.ne_of_gt hp)
  have hy := Int.emod_nonneg Y (Int.ne_of_gt hp)
  have hx2 := Int.emod_lt_of_pos X hp
  have hy2 := Int.emod_lt_of_pos Y hp
  unfold car
  refine ⟨Int.ediv_nonneg (by omega) (by omega), ?_⟩
  have : (X % 2 ^ i + Y % 2 ^ i + c) / 2 ^ i < 2 := by
    refine Int.ediv_lt_of_lt_mul hp ?_
    omega
  omega
theorem sum_div (X Y c : Int) (i : Nat) : (X + Y + c) / 2 ^ i = X / 2 ^ i + Y / 2 ^ i + car X Y c i := by
  have hp := pow_pos2 i
  have h1 := Int.mul_ediv_add_emod X (2 ^ i)
  have h2 := Int.mul_ediv_add_emod Y (2 ^ i)
  have e : X + Y + c = (X % 2 ^ i + Y % 2 ^ i + c) + 2 ^ i * (X / 2 ^ i + Y / 2 ^ i) := by
    rw [Int.mul_add]; omega
  rw [e, Int.add_mul_ediv_left _ _ (Int.ne_of_gt hp)]
  unfold car
  omega
theorem sum_bit (X Y c : Int) (i : Nat) : bit (X + Y + c) i = (bit X i + bit Y i + car X Y c i) % 2 := by
  have := sum_div X Y c i
  unfold bit
  rw [this]
  omega
theorem car_succ (X Y c : Int) (i : Nat) : car X Y c (i + 1) = (bit X i + bit Y i + car X Y c i) / 2 := by
  have hp := pow_pos2 i
  unfold car
  rw [mod_pow_succ, mod_pow_succ, Int.pow_succ, ← dd _ _ (Int.le_of_lt hp)]
  have e : 2 ^ i * bit X i + X % 2 ^ i + (2 ^ i * bit Y i + Y % 2 ^ i) + c = (X % 2 ^ i + Y % 2 ^ i + c) + 2 ^ i * (bit X i + bit Y i) := by
    rw [Int.mul_add]; omega
  rw [e, Int.add_mul_ediv_left _ _ (Int.ne_of_gt hp)]
  congr 1
  omega
end Wid
end Go.Proofs.YtkjjlppfomidbaaGreat
/- Wbits: Contracts of the document's answer for layer 2: bits; conditions: at most 1000 bits more. -/
namespace Go.Proofs.YtkjjlppfomidbaaGreat
namespace Wid
open Go Go.RowKit Sx
attribute [local irreducible] Go.Calls
abbrev U (n : Int) : Value := .int .u64 n
abbrev W2 (hi lo : Int) : Value := .agg #[I hi, U lo]
def isW (hi lo : Int) : Prop := -9223372036854775808 ≤ hi ∧ hi ≤ 9223372036854775807 ∧ 0 ≤ lo ∧ lo < 18446744073709551616
abbrev num (hi lo : Int) : Int := hi * 18446744073709551616 + lo
def bitsL (V : Int) (n : Nat) : List Value := (List.range n).map fun i => I (bit V i)
theorem bitsL_succ (V : Int) (n : Nat) : bitsL V (n + 1) = bitsL V n ++ [I (bit V n)] := by simp [bitsL, List.range_succ]
theorem bitsL_get (V : Int) (n i : Nat) (h : i < n) : (bitsL V n)[i]? = some (I (bit V i)) := by simp [bitsL, h]
set_option maxHeartbeats 1000000 in
theorem bits_ok (hi lo : Int) (m : Nat) (hW : isW hi lo) (hm : m ≤ 1000) (w : World) : Calls Tryz.prog 120 #[W2 hi lo, I m] w fun e w' => ∃ v, e = .returned v ∧ NewRow 3 1 w w' v (128 + m) (bitsL (num hi lo) (128 + m)) := by
  obtain ⟨h1, h2, h3, h4⟩ := hW
  refine calls1 (args := [W2 hi lo, I m]) Tryz.func120 rfl rfl rfl rfl ?_
  repeat' (first | refine aw_seq ?_ | refine zz ?_ | refine zon fun _ => ?_ | refine zoa fun vr lr hr => ?_ | refine zoS (fun _ => ?_) (fun _ => ?_) | refine zqS (fun _ => ?_) (fun _ => ?_) | refine zwS (fun _ => ?_) (fun _ => ?_))
  refine aw_for (t0 := [(1, I m), (2, .pointer (some ⟨_, 0, none⟩)), (5, .slice none 0 0), (6, U (lo / 2 ^ 0)), (7, I (0 : Nat))]) (fun q t H => ∃ (b i : Nat) (v : Value) (l : Hp), q = 64 - i ∧ i ≤ 64 ∧ RowB 3 1 v l i (bitsL (num hi lo) i) ∧ t = [(1, I m), (2, .pointer (some ⟨b, 0, none⟩)), (5, v), (6, U (lo / 2 ^ i)), (7, I i)] ∧ H = l ++ [(b, .cells #[I hi, U lo] 94)]) ⟨_, 0, _, _, rfl, by omega, RowB.nil, rfl, rfl⟩ (by first | exact sub_cons rfl (sub_cons rfl (sub_cons rfl (sub_cons' rfl (by simp) (sub_cons rfl sub_nil)))) ) ?_
  rintro q t H ⟨b, i, v, l, rfl, hi0, hr, rfl, rfl⟩
  have hp := pow_pos2 i
  have q0 : 0 ≤ lo / 2 ^ i := Int.ediv_nonneg h3 (Int.le_of_lt hp)
  have q1 : lo / 2 ^ i ≤ lo := Int.ediv_le_self _ h3
  have hds := div_pow_succ lo i
  have hbl := bit_low hi lo i
  generalize lo / 2 ^ i = z at q0 q1 hds hbl
  clear hp
  by_cases hlt : i < 64
  · repeat' (first | refine aw_seq ?_ | refine zz ?_ | refine zon fun _ => ?_ | refine zoa fun vr lr hr => ?_ | refine zoS (fun _ => ?_) (fun _ => ?_) | refine zqS (fun _ => ?_) (fun _ => ?_) | refine zwS (fun _ => ?_) (fun _ => ?_))
    refine lq_normal' ⟨b, i + 1, _, _, rfl, by omega, by rw [bitsL_succ, hbl hlt]; exact hr, rfl, rfl⟩ (by omega) ?_ hsub_a
    rw [hds]
    exact (by repeat (first | exact sub_nil | refine sub_cons rfl ?_))
  obtain rfl : i = 64 := by omega
  clear hds hbl q0 q1 hlt hi0
  repeat' (first | refine aw_seq ?_ | refine zz ?_ | refine zon fun _ => ?_ | refine zoa fun vr lr hr => ?_ | refine zoS (fun _ => ?_) (fun _ => ?_) | refine zqS (fun _ => ?_) (fun _ => ?_) | refine zwS (fun _ => ?_) (fun _ => ?_))
  refine aw_for (t0 := [(1, I m), (5, v), (8, U (hi % 18446744073709551616 / 2 ^ 0)), (9, I (0 : Nat))]) (fun q t H => ∃ (b i : Nat) (v : Value) (l : Hp), q = 64 - i ∧ i ≤ 64 ∧ RowB 3 1 v l (64 + i) (bitsL (num hi lo) (64 + i)) ∧ t = [(1, I m), (5, v), (8, U (hi % 18446744073709551616 / 2 ^ i)), (9, I i)] ∧ H = l ++ [(b, .cells #[I hi, U lo] 94)]) ⟨_, 0, _, _, rfl, by omega, hr, rfl, rfl⟩ (by first | exact sub_cons rfl (sub_cons rfl (sub_cons' rfl (by simp) (sub_cons rfl sub_nil)))) ?_
  clear hr
  rintro q t H ⟨b, i, v, l, rfl, hi0, hr, rfl, rfl⟩
  have hp := pow_pos2 i
  have hm0 : 0 ≤ hi % 18446744073709551616 := by omega
  have hm1 : hi % 18446744073709551616 < 18446744073709551616 := by omega
  have hds := div_pow_succ (hi % 18446744073709551616) i
  have hbh := bit_high hi lo i h3 h4
  have hbm := bit_mod hi i
  generalize hi % 18446744073709551616 = u at hm0 hm1 hds hbm ⊢
  have q0 : 0 ≤ u / 2 ^ i := Int.ediv_nonneg hm0 (Int.le_of_lt hp)
  have q1 : u / 2 ^ i ≤ u := Int.ediv_le_self _ hm0
  generalize u / 2 ^ i = z at q0 q1 hds hbm ⊢
  clear hp
  by_cases hlt : i < 64
  · repeat' (first | refine aw_seq ?_ | refine zz ?_ | refine zon fun _ => ?_ | refine zoa fun vr lr hr => ?_ | refine zoS (fun _ => ?_) (fun _ => ?_) | refine zqS (fun _ => ?_) (fun _ => ?_) | refine zwS (fun _ => ?_) (fun _ => ?_))
    refine lq_normal' ⟨b, i + 1, _, _, rfl, by omega, by rw [← Nat.add_assoc, bitsL_succ, hbh, ← hbm hlt]; exact hr, rfl, rfl⟩ (by omega) ?_ hsub_a
    rw [hds]
    exact (by repeat (first | exact sub_nil | refine sub_cons rfl ?_))
  obtain rfl : i = 64 := by omega
  clear hds hbh hbm q0 q1 hlt hi0 hm0 hm1
  repeat' (first | refine aw_seq ?_ | refine zz ?_ | refine zon fun _ => ?_ | refine zoa fun vr lr hr => ?_ | refine zoS (fun _ => ?_) (fun _ => ?_) | refine zqS (fun _ => ?_) (fun _ => ?_) | refine zwS (fun _ => ?_) (fun _ => ?_))
  refine aw_for (t0 := [(1, I m), (5, v), (10, I (0 : Nat))]) (fun q t H => ∃ (b i : Nat) (v : Value) (l : Hp), q = m - i ∧ i ≤ m ∧ RowB 3 1 v l (128 + i) (bitsL (num hi lo) (128 + i)) ∧ t = [(1, I m), (5, v), (10, I i)] ∧ H = l ++ [(b, .cells #[I hi, U lo] 94)]) ⟨_, 0, _, _, rfl, by omega, hr, rfl, rfl⟩ (by repeat (first | exact sub_nil | refine sub_cons rfl ?_)) ?_
  clear hr
  rintro q t H ⟨b, i, v, l, rfl, hi0, hr, rfl, rfl⟩
  by_cases hlt : i < m
  · have hr0 := hr
    obtain ⟨g, cap, cs, rfl, rfl, hc1, hc2, hc3⟩ := hr0.open (by omega)
    have h127 : cs[0 + (127 : Int).toNat * 1]? = some (I (bit (num hi lo) 127)) := row_cell hc3 (bitsL_get _ _ 127 (by omega))
    have hsg := bit_sign (num hi lo) (128 + i) (by unfold num; omega) (by unfold num; omega) (by omega)
    repeat' (first | refine aw_seq ?_ | refine zz ?_ | refine zon fun _ => ?_ | refine zoa fun vr lr hr => ?_ | refine zoS (fun _ => ?_) (fun _ => ?_) | refine zqS (fun _ => ?_) (fun _ => ?_) | refine zwS (fun _ => ?_) (fun _ => ?_))
    exact lq_normal' ⟨b, i + 1, _, _, rfl, by omega, by rw [← Nat.add_assoc, bitsL_succ, hsg]; exact hr, rfl, rfl⟩ (by omega) (by repeat (first | exact sub_nil | refine sub_cons rfl ?_)) hsub_a
  · repeat' (first | refine aw_seq ?_ | refine zz ?_ | refine zon fun _ => ?_ | refine zoa fun vr lr hr => ?_ | refine zoS (fun _ => ?_) (fun _ => ?_) | refine zqS (fun _ => ?_) (fun _ => ?_) | refine zwS (fun _ => ?_) (fun _ => ?_))
    obtain rfl : i = m := by omega
    exact fun w' hw => ⟨v, rfl, hw.below, l, hr, fun b o hm => hw.at_ b o (List.mem_append_left _ hm)⟩
set_option maxHeartbeats 1000000 in
theorem sum_ok (X Y c : Int) (n : Nat) (v1 v2 : Value) (hc : c = 0 ∨ c = 1) (hn : n ≤ 100000) (w : World) (h1 : OldRow w 1 v1 n (bitsL X n)) (h2 : OldRow w 1 v2 n (bitsL Y n)) :
    Calls Tryz.prog 119 #[v1, v2, I c] w fun e w' => ∃ v, e = .returned v ∧ NewRow 3 1 w w' v n (bitsL (X + Y + c) n) := by
  obtain ⟨-, a1, c1, rfl, h1⟩ := h1
  obtain ⟨-, a2, c2, rfl, h2⟩ := h2
  refine calls1 (args := [.slice a1 n c1, .slice a2 n c2, I c]) Tryz.func119 rfl rfl rfl rfl ?_
  repeat' (first | refine aw_seq ?_ | refine zz ?_ | refine zon fun _ => ?_ | refine zoa fun vr lr hr => ?_ | refine zoS (fun _ => ?_) (fun _ => ?_) | refine zqS (fun _ => ?_) (fun _ => ?_) | refine zwS (fun _ => ?_) (fun _ => ?_))
  refine aw_for (t0 := [(0, .slice a1 n c1), (1, .slice a2 n c2), (7, .slice none 0 0), (8, I (car X Y c 0)), (9, I (0 : Nat))]) (fun q t H => ∃ (i : Nat) (v : Value) (l : Hp), q = n - i ∧ i ≤ n ∧ RowB 3 1 v l i (bitsL (X + Y + c) i) ∧ t = [(0, .slice a1 n c1), (1, .slice a2 n c2), (7, v), (8, I (car X Y c i)), (9, I i)] ∧ H = l ++ []) ⟨0, _, _, rfl, by omega, RowB.nil, rfl, rfl⟩ (by exact sub_cons rfl (sub_cons rfl (sub_cons rfl (sub_cons' rfl (by rw [car_zero]) (sub_cons rfl sub_nil))))) ?_
  rintro q t H ⟨i, v, l, rfl, hi, hr, rfl, rfl⟩
  by_cases hlt : i < n
  · obtain ⟨g1, o1, rfl, hg1, hx⟩ := h1 (by omega)
    obtain ⟨g2, o2, rfl, hg2, hy⟩ := h2 (by omega)
    have hx1 : w.cell? ⟨g1, o1 + (i : Int).toNat * 1, none⟩ = some (I (bit X i)) := by
      have := hx i _ (bitsL_get X n i hlt)
      simpa using this
    have hy1 : w.cell? ⟨g2, o2 + (i : Int).toNat * 1, none⟩ = some (I (bit Y i)) := by
      have := hy i _ (bitsL_get Y n i hlt)
      simpa using this
    have b1 := bit_01 X i
    have b2 := bit_01 Y i
    have hcar := car_01 X Y c i hc
    have hs := sum_bit X Y c i
    have hcs := car_succ X Y c i
    clear hx hy h1 h2
    repeat' (first | refine aw_seq ?_ | refine zz ?_ | refine zon fun _ => ?_ | refine zoa fun vr lr hr => ?_ | refine zoS (fun _ => ?_) (fun _ => ?_) | refine zqS (fun _ => ?_) (fun _ => ?_) | refine zwS (fun _ => ?_) (fun _ => ?_))
    refine lq_normal' ⟨i + 1, _, _, rfl, by omega, by rw [bitsL_succ, hs]; exact hr, rfl, rfl⟩ (by omega) ?_ hsub_a
    rw [hcs]
    exact (by repeat (first | exact sub_nil | refine sub_cons rfl ?_))
  · repeat' (first | refine aw_seq ?_ | refine zz ?_ | refine zon fun _ => ?_ | refine zoa fun vr lr hr => ?_ | refine zoS (fun _ => ?_) (fun _ => ?_) | refine zqS (fun _ => ?_) (fun _ => ?_) | refine zwS (fun _ => ?_) (fun _ => ?_))
    obtain rfl : i = n := by omega
    exact fun w' hw => ⟨v, rfl, hw.below, l, hr, fun b o hm => hw.at_ b o (List.mem_append_left _ hm)⟩
def okN (V : Int) (n : Nat) : Bool := (List.range n).all fun i => decide (i < 128) || bit V i == bit V 127
theorem okN_t {V : Int} {n : Nat} (h : okN V n = true) {i : Nat} (hi : i < n) (h2 : 128 ≤ i) : bit V i = bit V 127 := by
  unfold okN at h
  rw [List.all_eq_true] at h
  have := h i (by simpa using hi)
  simp at this
  omega
theorem okN_of {V : Int} {n : Nat} (h : ∀ i, i < n → 128 ≤ i → bit V i = bit V 127) : okN V n = true := by
  unfold okN
  rw [List.all_eq_true]
  intro i hi
  have hi' : i < n := by simpa using hi
  by_cases h2 : i < 128
  · simp [h2]
  · simp [h i hi' (by omega)]
def numV (V : Int) (n : Nat) : Value := if okN V n then .tuple #[W2 (IntKind.i64.wrap (V / 18446744073709551616 % 18446744073709551616)) (V % 18446744073709551616), .bool true] else .tuple #[W2 0 0, .bool false]
theorem half_up (A : Int) (k : Nat) : A / 2 ^ k = 2 * (A / 2 ^ (k + 1)) + bit A k := by
  rw [div_pow_succ]; unfold bit; omega
theorem div_bd (A : Int) (k : Nat) (h0 : 0 ≤ A) (h1 : A < 18446744073709551616) : 0 ≤ A / 2 ^ k ∧ A / 2 ^ k < 18446744073709551616 :=
  ⟨Int.ediv_nonneg h0 (Int.le_of_lt (pow_pos2 k)), Int.lt_of_le_of_lt (Int.ediv_le_self _ h0) h1⟩
theorem bit_lo64 (V : Int) (k : Nat) (h : k < 64) : bit (V % 18446744073709551616) k = bit V k := by
  have e := bit_low (V / 18446744073709551616) (V % 18446744073709551616) k h
  have e2 : V / 18446744073709551616 * 18446744073709551616 + V % 18446744073709551616 = V := by omega
  rw [e2] at e
  rw [e]; rfl
theorem bit_hi64 (V : Int) (k : Nat) (h : k < 64) : bit (V / 18446744073709551616 % 18446744073709551616) k = bit V (64 + k) := by
  have e := bit_high (V / 18446744073709551616) (V % 18446744073709551616) k (by omega) (by omega)
  have e2 : V / 18446744073709551616 * 18446744073709551616 + V % 18446744073709551616 = V := by omega
  rw [e2] at e
  rw [e, ← bit_mod _ _ h]; rfl
set_option maxHeartbeats 2000000 in
theorem number_ok (V : Int) (n : Nat) (v : Value) (hn0 : 128 ≤ n) (hn : n ≤ 100000) (w : World) (h1 : OldRow w 1 v n (bitsL V n)) :
    Calls Tryz.prog 118 #[v] w fun e w' => e = .returned (numV V n) ∧ Below w.heap.size w w' := by
  obtain ⟨-, a1, c1, rfl, h1⟩ := h1
  obtain ⟨g, o, rfl, hg, hx⟩ := h1 (by omega)
  clear h1
  have hcell : ∀ j, j < n → w.cell? ⟨g, o + j, none⟩ = some (I (bit V j)) := fun j hj => hx j _ (bitsL_get V n j hj)
  clear hx
  have h127 : w.cell? ⟨g, o + (127 : Int).toNat * 1, none⟩ = some (I (bit V 127)) := hcell 127 (by omega)
  refine callsC2 (args := [.slice (some ⟨g, o, none⟩) n c1]) Tryz.func118 rfl rfl rfl rfl ?_
  repeat' (first | refine aw_seq ?_ | refine zz ?_ | refine zon fun _ => ?_ | refine zoa fun vr lr hr => ?_ | refine zoS (fun _ => ?_) (fun _ => ?_) | refine zqS (fun _ => ?_) (fun _ => ?_) | refine zwS (fun _ => ?_) (fun _ => ?_))
  refine aw_for (t0 := [(0, .slice (some ⟨g, o, none⟩) n c1), (2, .pointer (some ⟨_, 0, none⟩)), (4, I (128 : Nat))]) (fun q t H => ∃ (b i : Nat), q = n - i ∧ 128 ≤ i ∧ i ≤ n ∧ (∀ j, j < i → 128 ≤ j → bit V j = bit V 127) ∧ t = [(0, .slice (some ⟨g, o, none⟩) n c1), (2, .pointer (some ⟨b, 0, none⟩)), (4, I i)] ∧ H = [(b, .cells #[I 0, U 0] 94)]) ⟨_, 128, rfl, by omega, by omega, fun j h1 h2 => by omega, rfl, rfl⟩ (by repeat (first | exact sub_nil | refine sub_cons rfl ?_)) ?_
  rintro q t H ⟨b, i, rfl, hi0, hi, hall, rfl, rfl⟩
  by_cases hlt : i < n
  · have hci : w.cell? ⟨g, o + (i : Int).toNat * 1, none⟩ = some (I (bit V i)) := by simpa using hcell i hlt
    by_cases he : bit V i = bit V 127
    · have hd : (bit V i != bit V 127) = false := by simp [he]
      repeat' (first | refine aw_seq ?_ | refine zz ?_ | refine zon fun _ => ?_ | refine zoa fun vr lr hr => ?_ | refine zoS (fun _ => ?_) (fun _ => ?_) | refine zqS (fun _ => ?_) (fun _ => ?_) | refine zwS (fun _ => ?_) (fun _ => ?_))
      refine lq_normal ⟨b, i + 1, rfl, by omega, by omega, fun j hj h2 => ?_, rfl, rfl⟩ (by omega) (by repeat (first | exact sub_nil | refine sub_cons rfl ?_))
      by_cases e : j = i
      · subst e; exact he
      · exact hall j (by omega) h2
    · have hd : (bit V i != bit V 127) = true := by simp [he]
      have hno : okN V n = false := by
        cases hk : okN V n with
        | false => rfl
        | true => exact absurd (okN_t hk hlt hi0) he
      repeat' (first | refine aw_seq ?_ | refine zz ?_ | refine zon fun _ => ?_ | refine zoa fun vr lr hr => ?_ | refine zoS (fun _ => ?_) (fun _ => ?_) | refine zqS (fun _ => ?_) (fun _ => ?_) | refine zwS (fun _ => ?_) (fun _ => ?_))
      exact fun w' hw => ⟨by simp [numV, hno], hw.below⟩
  obtain rfl : i = n := by omega
  have hok : okN V i = true := okN_of hall
  clear hall hi hi0 hlt
  repeat' (first | refine aw_seq ?_ | refine zz ?_ | refine zon fun _ => ?_ | refine zoa fun vr lr hr => ?_ | refine zoS (fun _ => ?_) (fun _ => ?_) | refine zqS (fun _ => ?_) (fun _ => ?_) | refine zwS (fun _ => ?_) (fun _ => ?_))
  refine aw_for (t0 := [(0, .slice (some ⟨g, o, none⟩) i c1), (2, .pointer (some ⟨_, 0, none⟩)), (5, U (V % 18446744073709551616 / 2 ^ 64)), (6, U (V / 18446744073709551616 % 18446744073709551616 / 2 ^ 64)), (7, I ((64 : Nat) - 1))]) (fun q t H => ∃ (b k : Nat), q = k ∧ k ≤ 64 ∧ t = [(0, .slice (some ⟨g, o, none⟩) i c1), (2, .pointer (some ⟨b, 0, none⟩)), (5, U (V % 18446744073709551616 / 2 ^ k)), (6, U (V / 18446744073709551616 % 18446744073709551616 / 2 ^ k)), (7, I ((k : Int) - 1))] ∧ H = [(b, .cells #[I 0, U 0] 94)]) ⟨_, 64, rfl, by omega, rfl, rfl⟩ (by exact sub_cons rfl (sub_cons rfl (sub_cons' rfl (congrArg U (by omega)) (sub_cons' rfl (congrArg U (by omega)) (sub_cons rfl sub_nil))))) ?_
  rintro q t H ⟨b, k, rfl, hk, rfl, rfl⟩
  rcases Nat.eq_zero_or_pos q with rfl | hq
  · repeat' (first | refine aw_seq ?_ | refine zz ?_ | refine zon fun _ => ?_ | refine zoa fun vr lr hr => ?_ | refine zoS (fun _ => ?_) (fun _ => ?_) | refine zqS (fun _ => ?_) (fun _ => ?_) | refine zwS (fun _ => ?_) (fun _ => ?_))
    exact fun w' hw => ⟨by simp [numV, hok, W2], hw.below⟩
  · obtain ⟨k, rfl⟩ : ∃ k, q = k + 1 := ⟨q - 1, by omega⟩
    have hk0 : ((k + 1 : Nat) : Int) - 1 = k := by omega
    rw [hk0]
    have hcl : w.cell? ⟨g, o + (k : Int).toNat * 1, none⟩ = some (I (bit V k)) := by simpa using hcell k (by omega)
    have hch : w.cell? ⟨g, o + (64 + (k : Int)).toNat * 1, none⟩ = some (I (bit V (64 + k))) := by
      have e : (64 + (k : Int)).toNat * 1 = 64 + k := by omega
      rw [e]; exact hcell (64 + k) (by omega)
    have hl := half_up (V % 18446744073709551616) k
    have hh := half_up (V / 18446744073709551616 % 18446744073709551616) k
    rw [bit_lo64 V k (by omega)] at hl
    rw [bit_hi64 V k (by omega)] at hh
    have b1 := bit_01 V k
    have b2 := bit_01 V (64 + k)
    have bl := div_bd (V % 18446744073709551616) k (by omega) (by omega)
    have bh := div_bd (V / 18446744073709551616 % 18446744073709551616) k (by omega) (by omega)
    repeat' (first | refine aw_seq ?_ | refine zz ?_ | refine zon fun _ => ?_ | refine zoa fun vr lr hr => ?_ | refine zoS (fun _ => ?_) (fun _ => ?_) | refine zqS (fun _ => ?_) (fun _ => ?_) | refine zwS (fun _ => ?_) (fun _ => ?_))
    refine lq_normal ⟨b, k, rfl, by omega, rfl, rfl⟩ (by omega) (by exact sub_cons rfl (sub_cons rfl (sub_cons' rfl (congrArg U hl) (sub_cons' rfl (congrArg U hh) (sub_cons rfl sub_nil)))))
end Wid
end Go.Proofs.YtkjjlppfomidbaaGreat
/- Wref: Contracts of the document's answer for layer 2: sums, differences, fits, compare. -/
namespace Go.Proofs.YtkjjlppfomidbaaGreat
namespace Wid
open Go Go.RowKit Sx
attribute [local irreducible] Go.Calls
theorem pow127 : (2 : Int) ^ 127 = 170141183460469231731687303715884105728 := by decide
theorem okN_iff (V : Int) (n : Nat) (hn : 128 ≤ n) (h0 : -(2 ^ (n - 1)) ≤ V) (h1 : V < 2 ^ (n - 1)) : okN V n = decide (-170141183460469231731687303715884105728 ≤ V ∧ V < 170141183460469231731687303715884105728) := by
  rw [Bool.eq_iff_iff, decide_eq_true_eq]
  constructor
  · intro h
    have hb : ∀ i, i < n → 127 ≤ i → bit V i = bit V 127 := fun i hi h2 => by
      by_cases e : i = 127
      · rw [e]
      · exact okN_t h hi (by omega)
    have hp := pow_pos2 (n - 1)
    have htop : V / 2 ^ (n - 1) = - bit V 127 := by
      rw [← hb (n - 1) (by omega) (by omega)]
      unfold bit
      have a1 : -1 ≤ V / 2 ^ (n - 1) := by
        rw [Int.le_ediv_iff_mul_le hp]; omega
      have a2 : V / 2 ^ (n - 1) < 1 := Int.ediv_lt_of_lt_mul hp (by omega)
      omega
    have hall : ∀ k, k ≤ n - 1 - 127 → V / 2 ^ (n - 1 - k) = - bit V 127 := by
      intro k
      induction k with
      | zero => intro _; exact htop
      | succ k ih =>
        intro hk
        have e : n - 1 - k = n - 1 - (k + 1) + 1 := by omega
        have h2 := ih (by omega)
        have h3 := half_up V (n - 1 - (k + 1))
        rw [← e, h2, hb (n - 1 - (k + 1)) (by omega) (by omega)] at h3
        omega
    have h4 := hall (n - 1 - 127) (Nat.le_refl _)
    have e : n - 1 - (n - 1 - 127) = 127 := by omega
    rw [e, pow127] at h4
    have := bit_01 V 127
    omega
  · intro h
    exact okN_of fun i hi h2 => bit_sign V i h.1 h.2 (by omega)
theorem number_t (V : Int) (n : Nat) (v : Value) (hk : okN V n = true) (hn0 : 128 ≤ n) (hn : n ≤ 100000) (w : World) (h1 : OldRow w 1 v n (bitsL V n)) :
    Calls Tryz.prog 118 #[v] w fun e w' => e = .returned (.tuple #[W2 (IntKind.i64.wrap (V / 18446744073709551616 % 18446744073709551616)) (V % 18446744073709551616), .bool true]) ∧ Below w.heap.size w w' := by
  have h := number_ok V n v hn0 hn w h1
  simpa only [numV, hk, if_true] using h
theorem number_f (V : Int) (n : Nat) (v : Value) (hk : okN V n = false) (hn0 : 128 ≤ n) (hn : n ≤ 100000) (w : World) (h1 : OldRow w 1 v n (bitsL V n)) :
    Calls Tryz.prog 118 #[v] w fun e w' => e = .returned (.tuple #[W2 0 0, .bool false]) ∧ Below w.heap.size w w' := by
  have h := number_ok V n v hn0 hn w h1
  simpa only [numV, hk, Bool.false_eq_true, if_false] using h
set_option maxHeartbeats 1000000 in
theorem radd_ok (h1 l1 h2 l2 : Int) (hW1 : isW h1 l1) (hW2 : isW h2 l2) (w : World) :
    Calls Tryz.prog 81 #[W2 h1 l1, W2 h2 l2] w fun e w' => e = .returned (numV (num h1 l1 + num h2 l2) 130) ∧ Below w.heap.size w w' := by
  refine callsC2 (args := [W2 h1 l1, W2 h2 l2]) Tryz.func81 rfl rfl rfl rfl ?_
  cases hk : okN (num h1 l1 + num h2 l2 + 0) 130 with
  | false =>
    repeat' (first | (apply ao_nilh; exact hsub_a) | apply ao_nil | apply aq_nil | apply ah_end | ((first | apply ao_val | apply aq_val | (apply ah_take; (exact rfl))); exact wants_a; exact ov_a; (exact rfl)) | ((first | apply ao_skip | apply aq_skip | (apply ah_skip; (exact rfl))); exact nots_a; (exact rfl)) | (refine ao_is ?_; first | (apply ao_new; exact wants_a; exact on_a; (exact rfl); intro _) | (apply ao_store; exact wants_a; exact ow_a; exact upd_a) | (apply ao_valw; exact wants_a; exact ox_a; (exact rfl); exact upd_a) | (apply ao_skip0; exact nots_a) | (apply ao_append; exact wants_a; (exact rfl); assumption; (exact rfl); exact cut_a; exact has_a; (exact rfl); (exact rfl); omega; omega; omega; (exact rfl); intro vr lr hr)) | ((first | apply ao_call | apply aq_call); exact wants_a; (first | exact oc_func rfl | exact oc_clos rfl rfl | exact oc_bnd rfl rfl); (exact rfl); (first | exact fun w hw => number_f (num h1 l1 + num h2 l2 + 0) 130 _ hk (by decide) (by decide) w (hw.oldr (by assumption) cut_a))) | (apply ao_callr; exact wants_a; (exact oc_func rfl); (exact rfl); (first | exact fun w hw => bits_ok h1 l1 2 hW1 (by decide) w | exact fun w hw => bits_ok h2 l2 2 hW2 (by decide) w | exact fun w hw => sum_ok (num h1 l1) (num h2 l2) 0 130 _ _ (.inl rfl) (by decide) w (hw.oldr (by assumption) cut_a) (hw.oldr (by assumption) cut_a)); intro vr lr hr) | (apply ah_one; (exact rfl)) | (apply ah_two; (exact rfl); (exact rfl)) | (apply ah_three; (exact rfl); (exact rfl); (exact rfl)) | (refine aw_is ?_; first | (apply aw_held  (pl := (.t 0 (.t 2 (.o 1 (.o 3 (.o 4 (.o 5 (.t 6 (.t 7 (.o 8 (.t 9 .e))))))))))); (kernel_rfl); (kernel_rfl); (kernel_rfl); (solve | (apply hs_skip; exact List.Sublist.refl _))) | refine aw_seq ?_ | refine aw_block ?_ | refine aw_region ?_ | refine aw_skip ?_ | refine aw_exit ?_ | refine aw_ret ?_ | refine aw_label ?_ | refine aw_scope ?_ | refine aw_cond_t rfl (by with_reducible rfl) ?_ | refine aw_cond_f rfl (by with_reducible rfl) ?_ | refine aw_draw (by kernel_rfl) (by kernel_rfl) ?_) | (first | (refine ah_is ?_; (fail_if_success first | refine ah_glit (b := true) rfl rfl rfl (by with_reducible rfl) ?_ | refine ah_glit (b := false) rfl rfl rfl (by with_reducible rfl) ?_); apply ah_gt; (exact rfl); (exact rfl); (exact rfl); exact t_a) | ((refine ao_is ?_; (fail_if_success first | refine ao_glit (b := true) rfl rfl (by with_reducible rfl) ?_ | refine ao_glit (b := false) rfl rfl (by with_reducible rfl) ?_)); apply ao_gt; (exact rfl); (exact rfl); exact t_a) | ((refine aq_is ?_; (fail_if_success first | refine aq_glit (b := true) rfl rfl (by with_reducible rfl) ?_ | refine aq_glit (b := false) rfl rfl (by with_reducible rfl) ?_)); apply aq_gt; (exact rfl); (exact rfl); exact t_a) | (apply aw_ct; (exact rfl); exact t_a)) | (first | (refine ah_is ?_; (fail_if_success first | refine ah_glit (b := true) rfl rfl rfl (by with_reducible rfl) ?_ | refine ah_glit (b := false) rfl rfl rfl (by with_reducible rfl) ?_); apply ah_gf; (exact rfl); (exact rfl); (exact rfl); exact f_a) | ((refine ao_is ?_; (fail_if_success first | refine ao_glit (b := true) rfl rfl (by with_reducible rfl) ?_ | refine ao_glit (b := false) rfl rfl (by with_reducible rfl) ?_)); apply ao_gf; (exact rfl); (exact rfl); exact f_a) | ((refine aq_is ?_; (fail_if_success first | refine aq_glit (b := true) rfl rfl (by with_reducible rfl) ?_ | refine aq_glit (b := false) rfl rfl (by with_reducible rfl) ?_)); apply aq_gf; (exact rfl); (exact rfl); exact f_a) | (apply aw_cf; (exact rfl); exact f_a)) | refine at_normal ?_ | refine at_exit ?_ | refine at_ret ?_ | refine ib_normal ?_ | refine ib_exit ?_ | refine ib_other ?_ | refine ib_ret ?_ | refine lq_exit ?_ | refine lq_ret ?_ | refine ci_ret ?_ | refine ci_exit ?_ | refine r1_ret rfl ?_ | refine r1_normal rfl ?_ | refine r2_ret rfl rfl ?_ | refine r2_normal rfl rfl ?_ | refine r3_ret rfl rfl rfl ?_ | refine r3_normal rfl rfl rfl ?_ | refine ng_normal ?_ | refine ng_exit ?_ | refine ng_ret ?_ | (apply rt_ret; (exact rfl); (exact rfl); (exact rfl); exact has_a; exact has_a; (exact rfl); (exact rfl)) | (apply rc1_ret; (exact rfl); exact has_a; (exact rfl)) | (apply rc2_ret; (exact rfl); exact has_a; (exact rfl); (exact rfl)) | (refine ao_is ?_; (fail_if_success first | refine ao_glit (b := true) rfl rfl (by with_reducible rfl) ?_ | refine ao_glit (b := false) rfl rfl (by with_reducible rfl) ?_); refine ao_gbool rfl rfl (fun _ => ?_) (fun _ => ?_)) | (refine aq_is ?_; (fail_if_success first | refine aq_glit (b := true) rfl rfl (by with_reducible rfl) ?_ | refine aq_glit (b := false) rfl rfl (by with_reducible rfl) ?_); refine aq_gbool rfl rfl (fun _ => ?_) (fun _ => ?_)) | (refine aw_is ?_; refine aw_cond rfl (fun _ => ?_) (fun _ => ?_)))
    exact fun w' hw => ⟨by rw [Int.add_zero] at hk; simp [numV, hk], hw.below⟩
  | true =>
    repeat' (first | (apply ao_nilh; exact hsub_a) | apply ao_nil | apply aq_nil | apply ah_end | ((first | apply ao_val | apply aq_val | (apply ah_take; (exact rfl))); exact wants_a; exact ov_a; (exact rfl)) | ((first | apply ao_skip | apply aq_skip | (apply ah_skip; (exact rfl))); exact nots_a; (exact rfl)) | (refine ao_is ?_; first | (apply ao_new; exact wants_a; exact on_a; (exact rfl); intro _) | (apply ao_store; exact wants_a; exact ow_a; exact upd_a) | (apply ao_valw; exact wants_a; exact ox_a; (exact rfl); exact upd_a) | (apply ao_skip0; exact nots_a) | (apply ao_append; exact wants_a; (exact rfl); assumption; (exact rfl); exact cut_a; exact has_a; (exact rfl); (exact rfl); omega; omega; omega; (exact rfl); intro vr lr hr)) | ((first | apply ao_call | apply aq_call); exact wants_a; (first | exact oc_func rfl | exact oc_clos rfl rfl | exact oc_bnd rfl rfl); (exact rfl); (first | exact fun w hw => number_t (num h1 l1 + num h2 l2 + 0) 130 _ hk (by decide) (by decide) w (hw.oldr (by assumption) cut_a))) | (apply ao_callr; exact wants_a; (exact oc_func rfl); (exact rfl); (first | exact fun w hw => bits_ok h1 l1 2 hW1 (by decide) w | exact fun w hw => bits_ok h2 l2 2 hW2 (by decide) w | exact fun w hw => sum_ok (num h1 l1) (num h2 l2) 0 130 _ _ (.inl rfl) (by decide) w (hw.oldr (by assumption) cut_a) (hw.oldr (by assumption) cut_a)); intro vr lr hr) | (apply ah_one; (exact rfl)) | (apply ah_two; (exact rfl); (exact rfl)) | (apply ah_three; (exact rfl); (exact rfl); (exact rfl)) | (refine aw_is ?_; first | (apply aw_held  (pl := (.t 0 (.t 2 (.o 1 (.o 3 (.o 4 (.o 5 (.t 6 (.t 7 (.o 8 (.t 9 .e))))))))))); (kernel_rfl); (kernel_rfl); (kernel_rfl); (solve | (apply hs_skip; exact List.Sublist.refl _))) | refine aw_seq ?_ | refine aw_block ?_ | refine aw_region ?_ | refine aw_skip ?_ | refine aw_exit ?_ | refine aw_ret ?_ | refine aw_label ?_ | refine aw_scope ?_ | refine aw_cond_t rfl (by with_reducible rfl) ?_ | refine aw_cond_f rfl (by with_reducible rfl) ?_ | refine aw_draw (by kernel_rfl) (by kernel_rfl) ?_) | (first | (refine ah_is ?_; (fail_if_success first | refine ah_glit (b := true) rfl rfl rfl (by with_reducible rfl) ?_ | refine ah_glit (b := false) rfl rfl rfl (by with_reducible rfl) ?_); apply ah_gt; (exact rfl); (exact rfl); (exact rfl); exact t_a) | ((refine ao_is ?_; (fail_if_success first | refine ao_glit (b := true) rfl rfl (by with_reducible rfl) ?_ | refine ao_glit (b := false) rfl rfl (by with_reducible rfl) ?_)); apply ao_gt; (exact rfl); (exact rfl); exact t_a) | ((refine aq_is ?_; (fail_if_success first | refine aq_glit (b := true) rfl rfl (by with_reducible rfl) ?_ | refine aq_glit (b := false) rfl rfl (by with_reducible rfl) ?_)); apply aq_gt; (exact rfl); (exact rfl); exact t_a) | (apply aw_ct; (exact rfl); exact t_a)) | (first | (refine ah_is ?_; (fail_if_success first | refine ah_glit (b := true) rfl rfl rfl (by with_reducible rfl) ?_ | refine ah_glit (b := false) rfl rfl rfl (by with_reducible rfl) ?_); apply ah_gf; (exact rfl); (exact rfl); (exact rfl); exact f_a) | ((refine ao_is ?_; (fail_if_success first | refine ao_glit (b := true) rfl rfl (by with_reducible rfl) ?_ | refine ao_glit (b := false) rfl rfl (by with_reducible rfl) ?_)); apply ao_gf; (exact rfl); (exact rfl); exact f_a) | ((refine aq_is ?_; (fail_if_success first | refine aq_glit (b := true) rfl rfl (by with_reducible rfl) ?_ | refine aq_glit (b := false) rfl rfl (by with_reducible rfl) ?_)); apply aq_gf; (exact rfl); (exact rfl); exact f_a) | (apply aw_cf; (exact rfl); exact f_a)) | refine at_normal ?_ | refine at_exit ?_ | refine at_ret ?_ | refine ib_normal ?_ | refine ib_exit ?_ | refine ib_other ?_ | refine ib_ret ?_ | refine lq_exit ?_ | refine lq_ret ?_ | refine ci_ret ?_ | refine ci_exit ?_ | refine r1_ret rfl ?_ | refine r1_normal rfl ?_ | refine r2_ret rfl rfl ?_ | refine r2_normal rfl rfl ?_ | refine r3_ret rfl rfl rfl ?_ | refine r3_normal rfl rfl rfl ?_ | refine ng_normal ?_ | refine ng_exit ?_ | refine ng_ret ?_ | (apply rt_ret; (exact rfl); (exact rfl); (exact rfl); exact has_a; exact has_a; (exact rfl); (exact rfl)) | (apply rc1_ret; (exact rfl); exact has_a; (exact rfl)) | (apply rc2_ret; (exact rfl); exact has_a; (exact rfl); (exact rfl)) | (refine ao_is ?_; (fail_if_success first | refine ao_glit (b := true) rfl rfl (by with_reducible rfl) ?_ | refine ao_glit (b := false) rfl rfl (by with_reducible rfl) ?_); refine ao_gbool rfl rfl (fun _ => ?_) (fun _ => ?_)) | (refine aq_is ?_; (fail_if_success first | refine aq_glit (b := true) rfl rfl (by with_reducible rfl) ?_ | refine aq_glit (b := false) rfl rfl (by with_reducible rfl) ?_); refine aq_gbool rfl rfl (fun _ => ?_) (fun _ => ?_)) | (refine aw_is ?_; refine aw_cond rfl (fun _ => ?_) (fun _ => ?_)))
    exact fun w' hw => ⟨by rw [Int.add_zero] at hk; simp [numV, hk], hw.below⟩
end Wid
end Go.Proofs.YtkjjlppfomidbaaGreat
/- Wflip: Contracts of the document's answer for layer 2: the difference. -/
namespace Go.Proofs.YtkjjlppfomidbaaGreat
namespace Wid
open Go Go.RowKit Sx
attribute [local irreducible] Go.Calls
theorem RowB.set1 {e : TypeId} {g cap n i k : Nat} {cs xs : List Value} {v : Value} (hc1 : n ≤ cap) (hc2 : cs.length = cap * 1) (hc3 : cs.take (n * 1) = xs) (hk : k = i) :
    RowB e 1 (.slice (some ⟨g, 0, none⟩) n cap) [(g, .cells (cs.set k v).toArray e (0, 0))] n (xs.set i v) := by
  subst hk hc3
  refine ⟨by simp; omega, .inr ⟨g, cap, _, rfl, rfl, hc1, by simpa using hc2, ?_⟩⟩
  simp [List.take_set]
def flipL (V : Int) (i n : Nat) : List Value := (List.range n).map fun j => I (if j < i then 1 - bit V j else bit V j)
theorem flip_0 (V : Int) (n : Nat) : flipL V 0 n = bitsL V n := by simp [flipL, bitsL]
theorem flip_get (V : Int) (n i : Nat) (h : i < n) : (flipL V i n)[i]? = some (I (bit V i)) := by simp [flipL, h]
theorem flip_set (V : Int) (n i : Nat) : (flipL V i n).set i (I (1 - bit V i)) = flipL V (i + 1) n := by
  apply List.ext_getElem?
  intro j
  by_cases e : i = j
  · subst e
    by_cases hi : i < n
    · simp [flipL, hi]
    · simp [flipL, hi]
  · rw [List.getElem?_set_ne e]
    by_cases hj : j < n
    · have : (j < i) = (j < i + 1) := by simp; omega
      simp [flipL, hj, this]
    · simp [flipL, hj]
theorem bit_neg (V : Int) (i : Nat) : bit (-1 - V) i = 1 - bit V i := by
  have hp := pow_pos2 i
  have h : (-1 - V) / 2 ^ i = -1 - V / 2 ^ i := by
    have h1 := Int.mul_ediv_add_emod V (2 ^ i)
    have h2 := Int.emod_nonneg V (Int.ne_of_gt hp)
    have h3 := Int.emod_lt_of_pos V hp
    rw [Int.ediv_eq_iff_of_pos hp]
    generalize V / 2 ^ i = q at *
    generalize V % 2 ^ i = r at *
    generalize (2 : Int) ^ i = p at *
    have e : (-1 - q) * p = - p - p * q := by rw [Int.sub_mul, Int.mul_comm q p]; omega
    have e2 : (-1 - q + 1) * p = - (p * q) := by rw [show -1 - q + 1 = -q by omega, Int.neg_mul, Int.mul_comm q p]
    omega
  unfold bit
  rw [h]; omega
theorem flip_n (V : Int) (n : Nat) : flipL V n n = bitsL (-1 - V) n := by
  apply List.ext_getElem?
  intro j
  by_cases hj : j < n
  · simp [flipL, bitsL, hj, bit_neg]
  · simp [flipL, bitsL, hj]
set_option maxHeartbeats 1000000 in
theorem rsub_ok (h1 l1 h2 l2 : Int) (hW1 : isW h1 l1) (hW2 : isW h2 l2) (w : World) :
    Calls Tryz.prog 82 #[W2 h1 l1, W2 h2 l2] w fun e w' => e = .returned (numV (num h1 l1 - num h2 l2) 130) ∧ Below w.heap.size w w' := by
  refine callsC2 (args := [W2 h1 l1, W2 h2 l2]) Tryz.func82 rfl rfl rfl rfl ?_
  repeat' (first | refine aw_seq ?_ | refine zz ?_ | refine zon fun _ => ?_ | refine zoa fun vr lr hr => ?_ | (apply ao_callr; exact wants_a; (exact oc_func rfl); (exact rfl); (first | exact fun w hw => bits_ok h2 l2 2 hW2 (by decide) w); intro vr lr hr) | refine zoS (fun _ => ?_) (fun _ => ?_) | refine zqS (fun _ => ?_) (fun _ => ?_) | refine zwS (fun _ => ?_) (fun _ => ?_))
  obtain ⟨n, hn⟩ : ∃ n : Nat, n = 130 := ⟨_, rfl⟩
  rw [show (128 + 2 : Nat) = n from hn.symm] at hr
  refine aw_forH (t0 := [(2, .pointer (some ⟨_, 0, none⟩)), (4, .pointer (some ⟨_, 0, none⟩)), (6, vr), (7, I (0 : Nat))]) (fun q t H => ∃ (b c i : Nat) (v : Value) (l : Hp), q = n - i ∧ i ≤ n ∧ RowB 3 1 v l n (flipL (num h2 l2) i n) ∧ t = [(2, .pointer (some ⟨b, 0, none⟩)), (4, .pointer (some ⟨c, 0, none⟩)), (6, v), (7, I i)] ∧ H = l ++ [(c, .cells #[I 0, U 0] 94), (b, .cells #[I h1, U l1] 94)]) ⟨_, _, 0, _, _, rfl, by omega, by rw [flip_0]; exact hr, rfl, rfl⟩ (by repeat (first | exact sub_nil | refine sub_cons rfl ?_)) (by exact hs_app _ (hs_keep _ (hs_skip _ (List.Sublist.refl _)))) ?_
  clear hr
  rintro q t H ⟨b, c, i, v, l, rfl, hi0, hr, rfl, rfl⟩
  have hr0 := hr
  obtain ⟨g, cap, cs, rfl, rfl, hc1, hc2, hc3⟩ := hr0.open (by omega)
  by_cases hlt : i < n
  · have hci : cs[0 + (i : Int).toNat * 1]? = some (I (bit (num h2 l2) i)) := row_cell hc3 (by simpa using flip_get _ _ i hlt)
    have hb := bit_01 (num h2 l2) i
    have hlen : 0 + (i : Int).toNat * 1 < cs.length := by omega
    have hset := RowB.set1 (e := 3) (g := g) (v := I (1 - bit (num h2 l2) i)) hc1 hc2 hc3 (show 0 + (i : Int).toNat * 1 = i by omega)
    rw [flip_set] at hset
    repeat' (first | refine aw_seq ?_ | refine zz ?_ | refine zon fun _ => ?_ | refine zoa fun vr lr hr => ?_ | refine zoS (fun _ => ?_) (fun _ => ?_) | refine zqS (fun _ => ?_) (fun _ => ?_) | refine zwS (fun _ => ?_) (fun _ => ?_))
    exact lq_normal' ⟨b, c, i + 1, _, _, rfl, by omega, hset, rfl, rfl⟩ (by omega) (by repeat (first | exact sub_nil | refine sub_cons rfl ?_)) (List.Sublist.refl _)
  · obtain rfl : i = n := by omega
    subst hn
    rw [flip_n] at hr
    cases hk : okN (num h1 l1 + (-1 - num h2 l2) + 1) 130 with
    | false =>
      repeat' (first | refine aw_seq ?_ | refine zz ?_ | refine zon fun _ => ?_ | refine zoa fun vr lr hr => ?_ | ((first | apply ao_call | apply aq_call); exact wants_a; (first | exact oc_func rfl | exact oc_clos rfl rfl | exact oc_bnd rfl rfl); (exact rfl); (first | exact fun w hw => number_f (num h1 l1 + (-1 - num h2 l2) + 1) 130 _ hk (by decide) (by decide) w (hw.oldr (by assumption) cut_a))) | (apply ao_callr; exact wants_a; (exact oc_func rfl); (exact rfl); (first | exact fun w hw => bits_ok h1 l1 2 hW1 (by decide) w | exact fun w hw => sum_ok (num h1 l1) (-1 - num h2 l2) 1 130 _ _ (.inr rfl) (by decide) w (hw.oldr (by assumption) cut_a) (hw.oldr (by assumption) cut_a)); intro vr lr hr) | refine zoS (fun _ => ?_) (fun _ => ?_) | refine zqS (fun _ => ?_) (fun _ => ?_) | refine zwS (fun _ => ?_) (fun _ => ?_))
      have he : num h1 l1 + (-1 - num h2 l2) + 1 = num h1 l1 - num h2 l2 := by unfold num; omega
      rw [he] at hk
      exact fun w' hw => ⟨by simp [numV, hk], hw.below⟩
    | true =>
      repeat' (first | refine aw_seq ?_ | refine zz ?_ | refine zon fun _ => ?_ | refine zoa fun vr lr hr => ?_ | ((first | apply ao_call | apply aq_call); exact wants_a; (first | exact oc_func rfl | exact oc_clos rfl rfl | exact oc_bnd rfl rfl); (exact rfl); (first | exact fun w hw => number_t (num h1 l1 + (-1 - num h2 l2) + 1) 130 _ hk (by decide) (by decide) w (hw.oldr (by assumption) cut_a))) | (apply ao_callr; exact wants_a; (exact oc_func rfl); (exact rfl); (first | exact fun w hw => bits_ok h1 l1 2 hW1 (by decide) w | exact fun w hw => sum_ok (num h1 l1) (-1 - num h2 l2) 1 130 _ _ (.inr rfl) (by decide) w (hw.oldr (by assumption) cut_a) (hw.oldr (by assumption) cut_a)); intro vr lr hr) | refine zoS (fun _ => ?_) (fun _ => ?_) | refine zqS (fun _ => ?_) (fun _ => ?_) | refine zwS (fun _ => ?_) (fun _ => ?_))
      have he : num h1 l1 + (-1 - num h2 l2) + 1 = num h1 l1 - num h2 l2 := by unfold num; omega
      rw [he] at hk
      exact fun w' hw => ⟨by rw [he]; simp [numV, hk], hw.below⟩
end Wid
end Go.Proofs.YtkjjlppfomidbaaGreat
/- Wcmp: Contracts of the document's answer for layer 2: compare, fits, of. -/
namespace Go.Proofs.YtkjjlppfomidbaaGreat
namespace Wid
open Go Go.RowKit Sx
attribute [local irreducible] Go.Calls
def cmpI (X Y : Int) : Int := if X < Y then -1 else if X = Y then 0 else 1
theorem wrap_lo (n : Int) (h0 : 0 ≤ n) (h1 : n ≤ 9223372036854775807) : IntKind.i64.wrap n = n := by
  simp [IntKind.wrap, IntKind.bits, IntKind.signed]; omega
theorem wrap_hi (n : Int) (h0 : 9223372036854775808 ≤ n) (h1 : n < 18446744073709551616) : IntKind.i64.wrap n = n - 18446744073709551616 := by
  simp [IntKind.wrap, IntKind.bits, IntKind.signed]; omega
def fitsV (X : Int) : Value := if -9223372036854775808 ≤ X ∧ X ≤ 9223372036854775807 then .tuple #[I X, .bool true] else .tuple #[I 0, .bool false]
set_option maxHeartbeats 1000000 in
theorem rfits_ok (hi lo : Int) (hW : isW hi lo) (w : World) :
    Calls Tryz.prog 76 #[W2 hi lo] w fun e w' => e = .returned (fitsV (num hi lo)) ∧ Below w.heap.size w w' := by
  obtain ⟨a1, a2, a3, a4⟩ := hW
  refine calls2 (args := [W2 hi lo]) Tryz.func76 rfl rfl rfl rfl ?_
  by_cases e0 : hi = 0
  · by_cases e1 : lo ≤ 9223372036854775807
    · have e : fitsV (num hi lo) = .tuple #[I lo, .bool true] := by subst e0; unfold fitsV num; rw [if_pos (by omega)]; simp
      rw [e]
      repeat' (first | refine aw_seq ?_ | refine zz ?_ | refine zon fun _ => ?_ | refine zoa fun vr lr hr => ?_ | refine zoS (fun _ => ?_) (fun _ => ?_) | refine zqS (fun _ => ?_) (fun _ => ?_) | refine zwS (fun _ => ?_) (fun _ => ?_))
      exact fun w' hw => ⟨rfl, hw.below⟩
    · have e : fitsV (num hi lo) = .tuple #[I 0, .bool false] := by unfold fitsV num; rw [if_neg (by omega)]
      rw [e]
      repeat' (first | refine aw_seq ?_ | refine zz ?_ | refine zon fun _ => ?_ | refine zoa fun vr lr hr => ?_ | refine zoS (fun _ => ?_) (fun _ => ?_) | refine zqS (fun _ => ?_) (fun _ => ?_) | refine zwS (fun _ => ?_) (fun _ => ?_))
      exact fun w' hw => ⟨rfl, hw.below⟩
  · by_cases e1 : hi = -1
    · by_cases e2 : 9223372036854775808 ≤ lo
      · have e : fitsV (num hi lo) = .tuple #[I (lo - 18446744073709551616), .bool true] := by subst e1; unfold fitsV num; rw [if_pos (by omega)]; rw [show -1 * 18446744073709551616 + lo = lo - 18446744073709551616 by omega]
        rw [e]
        repeat' (first | refine aw_seq ?_ | refine zz ?_ | refine zon fun _ => ?_ | refine zoa fun vr lr hr => ?_ | refine zoS (fun _ => ?_) (fun _ => ?_) | refine zqS (fun _ => ?_) (fun _ => ?_) | refine zwS (fun _ => ?_) (fun _ => ?_))
        exact fun w' hw => ⟨by rw [wrap_hi _ e2 a4], hw.below⟩
      · have e : fitsV (num hi lo) = .tuple #[I 0, .bool false] := by unfold fitsV num; rw [if_neg (by omega)]
        rw [e]
        repeat' (first | refine aw_seq ?_ | refine zz ?_ | refine zon fun _ => ?_ | refine zoa fun vr lr hr => ?_ | refine zoS (fun _ => ?_) (fun _ => ?_) | refine zqS (fun _ => ?_) (fun _ => ?_) | refine zwS (fun _ => ?_) (fun _ => ?_))
        exact fun w' hw => ⟨rfl, hw.below⟩
    · have e : fitsV (num hi lo) = .tuple #[I 0, .bool false] := by unfold fitsV num; rw [if_neg (by omega)]
      rw [e]
      repeat' (first | refine aw_seq ?_ | refine zz ?_ | refine zon fun _ => ?_ | refine zoa fun vr lr hr => ?_ | refine zoS (fun _ => ?_) (fun _ => ?_) | refine zqS (fun _ => ?_) (fun _ => ?_) | refine zwS (fun _ => ?_) (fun _ => ?_))
      exact fun w' hw => ⟨rfl, hw.below⟩
set_option maxHeartbeats 1000000 in
theorem rof_ok (n : Int) (h0 : -9223372036854775808 ≤ n) (h1 : n ≤ 9223372036854775807) (w : World) :
    Calls Tryz.prog 140 #[I n] w fun e w' => e = .returned (W2 (if n < 0 then -1 else 0) (n % 18446744073709551616)) ∧ Below w.heap.size w w' := by
  refine callsC1 (args := [I n]) Tryz.func140 rfl rfl rfl rfl ?_
  by_cases h : n < 0
  · rw [if_pos h]
    repeat' (first | refine aw_seq ?_ | refine zz ?_ | refine zon fun _ => ?_ | refine zoa fun vr lr hr => ?_ | refine zoS (fun _ => ?_) (fun _ => ?_) | refine zqS (fun _ => ?_) (fun _ => ?_) | refine zwS (fun _ => ?_) (fun _ => ?_))
    exact fun w' hw => ⟨rfl, hw.below⟩
  · rw [if_neg h]
    repeat' (first | refine aw_seq ?_ | refine zz ?_ | refine zon fun _ => ?_ | refine zoa fun vr lr hr => ?_ | refine zoS (fun _ => ?_) (fun _ => ?_) | refine zqS (fun _ => ?_) (fun _ => ?_) | refine zwS (fun _ => ?_) (fun _ => ?_))
    exact fun w' hw => ⟨by rw [show n % 18446744073709551616 = n by omega], hw.below⟩
end Wid
end Go.Proofs.YtkjjlppfomidbaaGreat
/- Wshift: Contracts of the document's answer for layer 2: shift. -/
namespace Go.Proofs.YtkjjlppfomidbaaGreat
namespace Wid
open Go Go.RowKit Sx
attribute [local irreducible] Go.Calls
end Wid
end Go.Proofs.YtkjjlppfomidbaaGreat
/- Wval: Wide numbers as values, and the contracts of the document's answer for layer 2 in their words; conditions: none. -/
namespace Go.Proofs.YtkjjlppfomidbaaGreat
namespace Wid
open Go Go.RowKit Sx
attribute [local irreducible] Go.Calls
def inW (Z : Int) : Prop := -170141183460469231731687303715884105728 ≤ Z ∧ Z < 170141183460469231731687303715884105728
instance (Z : Int) : Decidable (inW Z) := by unfold inW; infer_instance
def sN (Z : Int) : Int := if inW Z then Z else 0
def sHi (Z : Int) : Int := sN Z / 18446744073709551616
def sLo (Z : Int) : Int := sN Z % 18446744073709551616
abbrev sumV (Z : Int) : Value := .tuple #[W2 (sHi Z) (sLo Z), .bool (decide (inW Z))]
theorem sN_in {Z : Int} (h : inW Z) : sN Z = Z := by unfold sN; rw [if_pos h]
theorem sN_out {Z : Int} (h : ¬ inW Z) : sN Z = 0 := by unfold sN; rw [if_neg h]
theorem sN_inW (Z : Int) : inW (sN Z) := by
  by_cases h : inW Z
  · rw [sN_in h]; exact h
  · rw [sN_out h]; unfold inW; omega
theorem s_isW (Z : Int) : isW (sHi Z) (sLo Z) := by
  have := sN_inW Z
  unfold inW at this
  unfold isW sHi sLo
  generalize sN Z = V at *
  omega
theorem s_num (Z : Int) : num (sHi Z) (sLo Z) = sN Z := by unfold num sHi sLo; omega
theorem num_inW {hi lo : Int} (h : isW hi lo) : inW (num hi lo) := by unfold isW at h; unfold inW num; omega
theorem sN_num {hi lo : Int} (h : isW hi lo) : sN (num hi lo) = num hi lo := sN_in (num_inW h)
theorem sHi_num {hi lo : Int} (h : isW hi lo) : sHi (num hi lo) = hi := by unfold sHi; rw [sN_num h]; unfold isW at h; unfold num; omega
theorem sLo_num {hi lo : Int} (h : isW hi lo) : sLo (num hi lo) = lo := by unfold sLo; rw [sN_num h]; unfold isW at h; unfold num; omega
theorem sumV_t {a b Z : Int} (h : isW a b) (e : num a b = Z) : Value.tuple #[W2 a b, .bool true] = sumV Z := by
  subst e
  show _ = Value.tuple #[W2 (sHi (num a b)) (sLo (num a b)), .bool (decide (inW (num a b)))]
  rw [sHi_num h, sLo_num h, decide_eq_true (num_inW h)]
theorem sumV_f {Z : Int} (h : ¬ inW Z) : Value.tuple #[W2 0 0, .bool false] = sumV Z := by
  show _ = Value.tuple #[W2 (sHi Z) (sLo Z), .bool (decide (inW Z))]
  have h1 : sHi Z = 0 := by unfold sHi; rw [sN_out h]; rfl
  have h2 : sLo Z = 0 := by unfold sLo; rw [sN_out h]; rfl
  rw [h1, h2, decide_eq_false h]
theorem i64_cases (x : Int) (h0 : 0 ≤ x) (h1 : x < 18446744073709551616) : (x < 9223372036854775808 ∧ IntKind.i64.wrap x = x) ∨ (9223372036854775808 ≤ x ∧ IntKind.i64.wrap x = x - 18446744073709551616) := by
  by_cases h : x < 9223372036854775808
  · exact .inl ⟨h, wrap_lo x h0 (by omega)⟩
  · exact .inr ⟨by omega, wrap_hi x (by omega) h1⟩
theorem numV_eq (V : Int) (n : Nat) (hn : 128 ≤ n) (h0 : -(2 ^ (n - 1)) ≤ V) (h1 : V < 2 ^ (n - 1)) : numV V n = sumV V := by
  unfold numV
  rw [okN_iff V n hn h0 h1]
  by_cases h : inW V
  · have h' := h
    unfold inW at h'
    rw [if_pos (by simpa using h')]
    refine sumV_t ?_ ?_
    · have := i64_cases (V / 18446744073709551616 % 18446744073709551616) (by omega) (by omega)
      unfold isW
      omega
    · have := i64_cases (V / 18446744073709551616 % 18446744073709551616) (by omega) (by omega)
      unfold num
      omega
  · have h' := h
    unfold inW at h'
    rw [if_neg (by simpa using h')]
    exact sumV_f h
theorem p129 : (2 : Int) ^ (130 - 1) = 680564733841876926926749214863536422912 := by decide
theorem radd (h1 l1 h2 l2 : Int) (hW1 : isW h1 l1) (hW2 : isW h2 l2) (w : World) :
    Calls Tryz.prog 81 #[W2 h1 l1, W2 h2 l2] w fun e w' => e = .returned (sumV (num h1 l1 + num h2 l2)) ∧ Below w.heap.size w w' := by
  have h := radd_ok h1 l1 h2 l2 hW1 hW2 w
  have a := num_inW hW1
  have b := num_inW hW2
  unfold inW at a b
  rwa [numV_eq _ 130 (by decide) (by rw [p129]; omega) (by rw [p129]; omega)] at h
theorem rsub (h1 l1 h2 l2 : Int) (hW1 : isW h1 l1) (hW2 : isW h2 l2) (w : World) :
    Calls Tryz.prog 82 #[W2 h1 l1, W2 h2 l2] w fun e w' => e = .returned (sumV (num h1 l1 - num h2 l2)) ∧ Below w.heap.size w w' := by
  have h := rsub_ok h1 l1 h2 l2 hW1 hW2 w
  have a := num_inW hW1
  have b := num_inW hW2
  unfold inW at a b
  rwa [numV_eq _ 130 (by decide) (by rw [p129]; omega) (by rw [p129]; omega)] at h
end Wid
end Go.Proofs.YtkjjlppfomidbaaGreat
