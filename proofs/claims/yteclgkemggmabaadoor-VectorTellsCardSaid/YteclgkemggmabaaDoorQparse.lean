/- Contracts of the document's answer for layer 3: Parse; conditions: texts of at most 100,000 bytes. -/
import Derived.Test.YteclgkemggmabaaDoorQref
namespace Go.Proofs.YteclgkemggmabaaDoor
namespace Qty
open Go Go.RowKit Sx Wid
attribute [local irreducible] Go.Calls

def isFig (c : UInt8) : Bool := decide (48 ≤ (c.toNat : Int)) && decide ((c.toNat : Int) ≤ 57)
/-- How many figures a text begins with. -/
def figN : List UInt8 → Nat
  | [] => 0
  | c :: l => if isFig c then figN l + 1 else 0
theorem figN_le : ∀ (l : List UInt8), figN l ≤ l.length
  | [] => Nat.le_refl _
  | c :: l => by unfold figN; split <;> simp; exact figN_le l
theorem figN_lt : ∀ (l : List UInt8) (i : Nat), i < figN l → ∃ c, l[i]? = some c ∧ isFig c = true
  | [], i, h => by simp [figN] at h
  | c :: l, i, h => by
    unfold figN at h
    by_cases hc : isFig c
    · rw [if_pos hc] at h
      cases i with
      | zero => exact ⟨c, rfl, hc⟩
      | succ i => simpa using figN_lt l i (by omega)
    · rw [if_neg hc] at h; omega
theorem figN_stop : ∀ (l : List UInt8) (c : UInt8), l[figN l]? = some c → isFig c = false
  | [], c, h => by simp at h
  | d :: l, c, h => by
    unfold figN at h
    by_cases hd : isFig d
    · rw [if_pos hd] at h
      exact figN_stop l c (by simpa using h)
    · rw [if_neg hd] at h
      simp at h; subst h; simpa using hd
/-- The number of the first i figures. -/
def valP (l : List UInt8) : Nat → Int
  | 0 => 0
  | i + 1 => 10 * valP l i + (((l[i]?).getD 48).toNat : Int) - 48
theorem fig_rng {c : UInt8} (h : isFig c = true) : 48 ≤ (c.toNat : Int) ∧ (c.toNat : Int) ≤ 57 := by simpa [isFig] using h
theorem valP_succ {l : List UInt8} {i : Nat} {c : UInt8} (h : l[i]? = some c) : valP l (i + 1) = 10 * valP l i + c.toNat - 48 := by simp [valP, h]
theorem valP_nonneg (l : List UInt8) : ∀ (i : Nat), i ≤ figN l → 0 ≤ valP l i
  | 0, _ => by simp [valP]
  | i + 1, h => by
    obtain ⟨c, hc, hf⟩ := figN_lt l i (by omega)
    have := fig_rng hf
    have ih := valP_nonneg l i (by omega)
    rw [valP_succ hc]
    omega
theorem valP_mono (l : List UInt8) (i : Nat) (h : i ≤ figN l) : ∀ (k : Nat), i + k ≤ figN l → valP l i ≤ valP l (i + k)
  | 0, _ => Int.le_refl _
  | k + 1, hk => by
    have ih := valP_mono l i h k (by omega)
    obtain ⟨c, hc, hf⟩ := figN_lt l (i + k) (by omega)
    have := fig_rng hf
    have h0 := valP_nonneg l (i + k) (by omega)
    rw [← Nat.add_assoc, valP_succ hc]
    omega
theorem valP_end (l : List UInt8) (i : Nat) (h : i ≤ figN l) : valP l i ≤ valP l (figN l) := by
  have := valP_mono l i h (figN l - i) (by omega)
  rwa [show i + (figN l - i) = figN l by omega] at this
/-- Has it no figures, a needless nought, or no suffix? -/
def badQ (l : List UInt8) : Bool := figN l == 0 || (decide (1 < figN l) && l[0]? == some 48) || facI (l.drop (figN l)) == 0
/-- The quantity of a text, or the error. -/
def parseQ (l : List UInt8) : Value :=
  if badQ l then .tuple #[I 0, I 2]
  else if valP l (figN l) * facI (l.drop (figN l)) ≤ 9223372036854775807 then .tuple #[I (valP l (figN l) * facI (l.drop (figN l))), I 0] else .tuple #[I 0, I 3]
theorem facI_rng (l : List UInt8) : facI l = 0 ∨ (1 ≤ facI l ∧ facI l ≤ 1099511627776) := by unfold facI; (repeat' split) <;> omega
theorem mul_le_iff {v F : Int} (hF : 1 ≤ F) : v * F ≤ 9223372036854775807 ↔ v ≤ 9223372036854775807 / F := by
  rw [Int.le_ediv_iff_mul_le (by omega)]

set_option maxHeartbeats 4000000 in
theorem rparse_ok (l : List UInt8) (hl : l.length ≤ 100000) (w : World) : Calls Tryd.prog 54 #[S l] w fun e w' => e = .returned (parseQ l) ∧ Below w.heap.size w w' := by
  have hn := figN_le l
  refine calls2 (args := [S l]) Tryd.func54 rfl rfl rfl rfl ?_
  repeat' (first | refine ao_nil ?_ | refine aq_nil ?_ | refine zov ?_ | refine zqv ?_ | refine zok ?_ | refine zqk ?_ | refine zon fun _ => ?_ | refine zow ?_ | refine zox ?_ | refine zoz ?_ | refine zoa fun vr lr hr => ?_ | (refine aw_is ?_; first | refine aw_cutI_at (id := 4) (fun t H => t = [(0, S l), (4, I (figN l))] ∧ H = []) ?_ ?_ | refine aw_cutI_at2 (id := 4) (fun t H => t = [(0, S l), (4, I (figN l))] ∧ H = []) ?_ ?_ | refine aw_seq ?_ | refine aw_block ?_ | refine aw_region ?_ | refine aw_skip ?_ | refine aw_exit ?_ | refine aw_ret ?_ | refine aw_label ?_ | refine aw_scope ?_ | refine zwt ?_ | refine zwf ?_ | refine zwd ?_) | refine zoT ?_ | refine zqT ?_ | refine zwT ?_ | refine zoF ?_ | refine zqF ?_ | refine zwF ?_ | refine zp ?_ | refine ib_exit ?_ | refine ib_other ?_ | refine zr1 ?_ | refine zr2 ?_ | refine zr3 ?_ | refine zrt ?_ | refine zrc ?_ | refine zrd ?_ | refine zoS (fun _ => ?_) (fun _ => ?_) | refine zqS (fun _ => ?_) (fun _ => ?_) | refine zwS (fun _ => ?_) (fun _ => ?_))
  · refine aw_for (t0 := [(0, S l), (4, I (0 : Nat))]) (fun q t H => ∃ i : Nat, q = l.length - i ∧ i ≤ figN l ∧ t = [(0, S l), (4, I i)] ∧ H = []) ⟨0, rfl, by omega, rfl, rfl⟩ (by repeat (first | exact sub_nil | refine sub_cons rfl ?_)) ?_
    rintro q t H ⟨i, rfl, hi, rfl, rfl⟩
    by_cases hlt : i < figN l
    · obtain ⟨c, hc, hf⟩ := figN_lt l i hlt
      have hr := fig_rng hf
      repeat' (first | refine ao_nil ?_ | refine aq_nil ?_ | ((first | apply ao_val | apply aq_val); exact wants_a; (first | exact ov_sindex rfl rfl hc (by omega) | exact ov_a); (exact rfl)) | refine zok ?_ | refine zqk ?_ | refine zon fun _ => ?_ | refine zow ?_ | refine zox ?_ | refine zoz ?_ | refine zoa fun vr lr hr => ?_ | (refine aw_is ?_; first | refine aw_seq ?_ | refine aw_block ?_ | refine aw_region ?_ | refine aw_skip ?_ | refine aw_exit ?_ | refine aw_ret ?_ | refine aw_label ?_ | refine aw_scope ?_ | refine zwt ?_ | refine zwf ?_ | refine zwd ?_) | refine zoT ?_ | refine zqT ?_ | refine zwT ?_ | refine zoF ?_ | refine zqF ?_ | refine zwF ?_ | refine zp ?_ | refine ib_exit ?_ | refine ib_other ?_ | refine zr1 ?_ | refine zr2 ?_ | refine zr3 ?_ | refine zrt ?_ | refine zrc ?_ | refine zrd ?_ | refine zoS (fun _ => ?_) (fun _ => ?_) | refine zqS (fun _ => ?_) (fun _ => ?_) | refine zwS (fun _ => ?_) (fun _ => ?_))
      exact lq_normal ⟨i + 1, rfl, by omega, rfl, rfl⟩ (by omega) (by repeat (first | exact sub_nil | refine sub_cons rfl ?_))
    obtain rfl : i = figN l := by omega
    by_cases he : figN l < l.length
    · have hc : l[figN l]? = some l[figN l] := by simp [he]
      generalize l[figN l] = c at hc
      have hs := figN_stop l c hc
      by_cases h48 : 48 ≤ (c.toNat : Int)
      · have h57 : ¬ (c.toNat : Int) ≤ 57 := fun h => by simp [isFig] at hs; omega
        repeat' (first | refine ao_nil ?_ | refine aq_nil ?_ | ((first | apply ao_val | apply aq_val); exact wants_a; (first | exact ov_sindex rfl rfl hc (by omega) | exact ov_a); (exact rfl)) | refine zok ?_ | refine zqk ?_ | refine zon fun _ => ?_ | refine zow ?_ | refine zox ?_ | refine zoz ?_ | refine zoa fun vr lr hr => ?_ | (refine aw_is ?_; first | refine aw_seq ?_ | refine aw_block ?_ | refine aw_region ?_ | refine aw_skip ?_ | refine aw_exit ?_ | refine aw_ret ?_ | refine aw_label ?_ | refine aw_scope ?_ | refine zwt ?_ | refine zwf ?_ | refine zwd ?_) | refine zoT ?_ | refine zqT ?_ | refine zwT ?_ | refine zoF ?_ | refine zqF ?_ | refine zwF ?_ | refine zp ?_ | refine ib_exit ?_ | refine ib_other ?_ | refine zr1 ?_ | refine zr2 ?_ | refine zr3 ?_ | refine zrt ?_ | refine zrc ?_ | refine zrd ?_ | refine zoS (fun _ => ?_) (fun _ => ?_) | refine zqS (fun _ => ?_) (fun _ => ?_) | refine zwS (fun _ => ?_) (fun _ => ?_))
        exact ci_normal ⟨rfl, rfl⟩ (by repeat (first | exact sub_nil | refine sub_cons rfl ?_)) hsub_a
      · repeat' (first | refine ao_nil ?_ | refine aq_nil ?_ | ((first | apply ao_val | apply aq_val); exact wants_a; (first | exact ov_sindex rfl rfl hc (by omega) | exact ov_a); (exact rfl)) | refine zok ?_ | refine zqk ?_ | refine zon fun _ => ?_ | refine zow ?_ | refine zox ?_ | refine zoz ?_ | refine zoa fun vr lr hr => ?_ | (refine aw_is ?_; first | refine aw_seq ?_ | refine aw_block ?_ | refine aw_region ?_ | refine aw_skip ?_ | refine aw_exit ?_ | refine aw_ret ?_ | refine aw_label ?_ | refine aw_scope ?_ | refine zwt ?_ | refine zwf ?_ | refine zwd ?_) | refine zoT ?_ | refine zqT ?_ | refine zwT ?_ | refine zoF ?_ | refine zqF ?_ | refine zwF ?_ | refine zp ?_ | refine ib_exit ?_ | refine ib_other ?_ | refine zr1 ?_ | refine zr2 ?_ | refine zr3 ?_ | refine zrt ?_ | refine zrc ?_ | refine zrd ?_ | refine zoS (fun _ => ?_) (fun _ => ?_) | refine zqS (fun _ => ?_) (fun _ => ?_) | refine zwS (fun _ => ?_) (fun _ => ?_))
        exact ci_normal ⟨rfl, rfl⟩ (by repeat (first | exact sub_nil | refine sub_cons rfl ?_)) hsub_a
    · repeat' (first | refine ao_nil ?_ | refine aq_nil ?_ | refine zov ?_ | refine zqv ?_ | refine zok ?_ | refine zqk ?_ | refine zon fun _ => ?_ | refine zow ?_ | refine zox ?_ | refine zoz ?_ | refine zoa fun vr lr hr => ?_ | (refine aw_is ?_; first | refine aw_seq ?_ | refine aw_block ?_ | refine aw_region ?_ | refine aw_skip ?_ | refine aw_exit ?_ | refine aw_ret ?_ | refine aw_label ?_ | refine aw_scope ?_ | refine zwt ?_ | refine zwf ?_ | refine zwd ?_) | refine zoT ?_ | refine zqT ?_ | refine zwT ?_ | refine zoF ?_ | refine zqF ?_ | refine zwF ?_ | refine zp ?_ | refine ib_exit ?_ | refine ib_other ?_ | refine zr1 ?_ | refine zr2 ?_ | refine zr3 ?_ | refine zrt ?_ | refine zrc ?_ | refine zrd ?_ | refine zoS (fun _ => ?_) (fun _ => ?_) | refine zqS (fun _ => ?_) (fun _ => ?_) | refine zwS (fun _ => ?_) (fun _ => ?_))
      exact ci_normal ⟨rfl, rfl⟩ (by repeat (first | exact sub_nil | refine sub_cons rfl ?_)) hsub_a
  rintro t H ⟨rfl, rfl⟩
  have hF := facI_rng (l.drop (figN l))
  cases hb : badQ l
  · have hp : parseQ l = if valP l (figN l) * facI (l.drop (figN l)) ≤ 9223372036854775807 then .tuple #[I (valP l (figN l) * facI (l.drop (figN l))), I 0] else .tuple #[I 0, I 3] := by unfold parseQ; rw [hb]; rfl
    rw [hp]
    simp only [badQ, Bool.or_eq_false_iff, beq_eq_false_iff_ne, Bool.and_eq_false_iff, decide_eq_false_iff_not] at hb
    obtain ⟨⟨hb1, hb2⟩, hb3⟩ := hb
    have hF1 : 1 ≤ facI (l.drop (figN l)) ∧ facI (l.drop (figN l)) ≤ 1099511627776 := by rcases hF with h | h; exact absurd h hb3; exact h
    obtain ⟨c0, hc0, -⟩ := figN_lt l 0 (by omega)
    have hz : 1 < figN l → (c0.toNat : Int) ≠ 48 := fun h1 h2 => by
      rcases hb2 with h | h
      · omega
      · rw [hc0] at h
        exact h (congrArg some (UInt8.toNat.inj (by simp; omega)))
    have hmul := mul_le_iff (v := valP l (figN l)) hF1.1
    have hfac := rfac_ok (l.drop (figN l))
    generalize facI (l.drop (figN l)) = F at *
    have hV0 := valP_nonneg l (figN l) (Nat.le_refl _)
    have hVF : 0 ≤ valP l (figN l) * F := Int.mul_nonneg hV0 (by omega)
    have hM0 : 0 ≤ 9223372036854775807 / F ∧ 9223372036854775807 / F ≤ 9223372036854775807 := ⟨Int.ediv_nonneg (by decide) (by omega), Int.ediv_le_self _ (by decide)⟩
    have hzz : decide ((1 : Int) < (figN l : Int)) = true → ((c0.toNat : Int) == 48) = false := fun h => by
      have := of_decide_eq_true h
      exact beq_eq_false_iff_ne.2 (hz (by omega))
    repeat' (first | refine ao_nil ?_ | refine aq_nil ?_ | ((first | apply ao_val | apply aq_val); exact wants_a; (first | exact ov_sslice_lo rfl rfl rfl hn | exact ov_sindex rfl rfl hc0 (by omega) | exact ov_a); (exact rfl)) | refine zok ?_ | refine zqk ?_ | refine zon fun _ => ?_ | refine zow ?_ | refine zox ?_ | refine zoz ?_ | refine zoa fun vr lr hr => ?_ | ((first | apply ao_call | apply aq_call); exact wants_a; (first | exact oc_func rfl | exact oc_clos rfl rfl); (exact rfl); (first | exact fun w hw => hfac w)) | (refine aw_is ?_; first | refine aw_cutI_at (id := 7) (fun t H => t = [(0, S l), (4, I (figN l)), (5, I F)] ∧ H = []) ?_ ?_ | refine aw_cutI_at2 (id := 7) (fun t H => t = [(0, S l), (4, I (figN l)), (5, I F)] ∧ H = []) ?_ ?_ | refine aw_seq ?_ | refine aw_block ?_ | refine aw_region ?_ | refine aw_skip ?_ | refine aw_exit ?_ | refine aw_ret ?_ | refine aw_label ?_ | refine aw_scope ?_ | refine zwt ?_ | refine zwf ?_ | refine zwd ?_) | (first | (refine ah_is ?_; (fail_if_success first | refine ah_glit (b := true) rfl rfl rfl (by with_reducible rfl) ?_ | refine ah_glit (b := false) rfl rfl rfl (by with_reducible rfl) ?_); apply ah_gt; (exact rfl); (exact rfl); (exact rfl); (first | exact hzz (by assumption) | exact t_a)) | ((refine ao_is ?_; (fail_if_success first | refine ao_glit (b := true) rfl rfl (by with_reducible rfl) ?_ | refine ao_glit (b := false) rfl rfl (by with_reducible rfl) ?_)); apply ao_gt; (exact rfl); (exact rfl); (first | exact hzz (by assumption) | exact t_a)) | ((refine aq_is ?_; (fail_if_success first | refine aq_glit (b := true) rfl rfl (by with_reducible rfl) ?_ | refine aq_glit (b := false) rfl rfl (by with_reducible rfl) ?_)); apply aq_gt; (exact rfl); (exact rfl); (first | exact hzz (by assumption) | exact t_a)) | (apply aw_ct; (exact rfl); (first | exact hzz (by assumption) | exact t_a))) | (first | (refine ah_is ?_; (fail_if_success first | refine ah_glit (b := true) rfl rfl rfl (by with_reducible rfl) ?_ | refine ah_glit (b := false) rfl rfl rfl (by with_reducible rfl) ?_); apply ah_gf; (exact rfl); (exact rfl); (exact rfl); (first | exact hzz (by assumption) | exact f_a)) | ((refine ao_is ?_; (fail_if_success first | refine ao_glit (b := true) rfl rfl (by with_reducible rfl) ?_ | refine ao_glit (b := false) rfl rfl (by with_reducible rfl) ?_)); apply ao_gf; (exact rfl); (exact rfl); (first | exact hzz (by assumption) | exact f_a)) | ((refine aq_is ?_; (fail_if_success first | refine aq_glit (b := true) rfl rfl (by with_reducible rfl) ?_ | refine aq_glit (b := false) rfl rfl (by with_reducible rfl) ?_)); apply aq_gf; (exact rfl); (exact rfl); (first | exact hzz (by assumption) | exact f_a)) | (apply aw_cf; (exact rfl); (first | exact hzz (by assumption) | exact f_a))) | refine zp ?_ | refine ib_exit ?_ | refine ib_other ?_ | refine zr1 ?_ | refine zr2 ?_ | refine zr3 ?_ | refine zrt ?_ | refine zrc ?_ | refine zrd ?_ | refine zoS (fun _ => ?_) (fun _ => ?_) | refine zqS (fun _ => ?_) (fun _ => ?_) | refine zwS (fun _ => ?_) (fun _ => ?_))
    all_goals try exact ci_normal ⟨rfl, rfl⟩ (by repeat (first | exact sub_nil | refine sub_cons rfl ?_)) hsub_a
    rintro t H ⟨rfl, rfl⟩
    obtain ⟨M, hM⟩ : ∃ M, 9223372036854775807 / F = M := ⟨_, rfl⟩
    rw [hM] at hM0 hmul
    repeat' (first | refine ao_nil ?_ | refine aq_nil ?_ | refine zov ?_ | refine zqv ?_ | refine zok ?_ | refine zqk ?_ | refine zon fun _ => ?_ | refine zow ?_ | refine zox ?_ | refine zoz ?_ | refine zoa fun vr lr hr => ?_ | (refine aw_is ?_; first | refine aw_seq ?_ | refine aw_block ?_ | refine aw_region ?_ | refine aw_skip ?_ | refine aw_exit ?_ | refine aw_ret ?_ | refine aw_label ?_ | refine aw_scope ?_ | refine zwt ?_ | refine zwf ?_ | refine zwd ?_) | refine zoT ?_ | refine zqT ?_ | refine zwT ?_ | refine zoF ?_ | refine zqF ?_ | refine zwF ?_ | refine zp ?_ | refine ib_exit ?_ | refine ib_other ?_ | refine zr1 ?_ | refine zr2 ?_ | refine zr3 ?_ | refine zrt ?_ | refine zrc ?_ | refine zrd ?_ | refine zoS (fun _ => ?_) (fun _ => ?_) | refine zqS (fun _ => ?_) (fun _ => ?_) | refine zwS (fun _ => ?_) (fun _ => ?_))
    rw [hM]
    refine aw_for (t0 := [(0, S l), (4, I (figN l)), (5, I F), (6, .int .u64 M), (7, .int .u64 (valP l 0)), (8, I (0 : Nat))]) (fun q t H => ∃ i : Nat, q = figN l - i ∧ i ≤ figN l ∧ valP l i ≤ M ∧ t = [(0, S l), (4, I (figN l)), (5, I F), (6, .int .u64 M), (7, .int .u64 (valP l i)), (8, I i)] ∧ H = []) ⟨0, rfl, by omega, hM0.1, rfl, rfl⟩ (by repeat (first | exact sub_nil | refine sub_cons rfl ?_)) ?_
    rintro q t H ⟨i, rfl, hi, hle, rfl, rfl⟩
    have hi0 := valP_nonneg l i hi
    by_cases hlt : i < figN l
    · obtain ⟨c, hc, hf⟩ := figN_lt l i hlt
      have hr := fig_rng hf
      have hs := valP_succ hc
      have he := valP_end l (i + 1) (by omega)
      generalize valP l i = u at *
      by_cases h1 : u ≤ M / 10
      · by_cases h2 : valP l (i + 1) ≤ M
        · repeat' (first | refine ao_nil ?_ | refine aq_nil ?_ | ((first | apply ao_val | apply aq_val); exact wants_a; (first | exact ov_sindex rfl rfl hc (by omega) | exact ov_subK ((c.toNat : Int) - 48) rfl rfl (wrap_u8 (by omega) (by omega)) | exact ov_a); (exact rfl)) | refine zok ?_ | refine zqk ?_ | refine zon fun _ => ?_ | refine zow ?_ | refine zox ?_ | refine zoz ?_ | refine zoa fun vr lr hr => ?_ | (refine aw_is ?_; first | refine aw_seq ?_ | refine aw_block ?_ | refine aw_region ?_ | refine aw_skip ?_ | refine aw_exit ?_ | refine aw_ret ?_ | refine aw_label ?_ | refine aw_scope ?_ | refine zwt ?_ | refine zwf ?_ | refine zwd ?_) | refine zoT ?_ | refine zqT ?_ | refine zwT ?_ | refine zoF ?_ | refine zqF ?_ | refine zwF ?_ | refine zp ?_ | refine ib_exit ?_ | refine ib_other ?_ | refine zr1 ?_ | refine zr2 ?_ | refine zr3 ?_ | refine zrt ?_ | refine zrc ?_ | refine zrd ?_ | refine zoS (fun _ => ?_) (fun _ => ?_) | refine zqS (fun _ => ?_) (fun _ => ?_) | refine zwS (fun _ => ?_) (fun _ => ?_))
          refine lq_normal ⟨i + 1, rfl, by omega, h2, rfl, rfl⟩ (by omega) ?_
          rw [hs]
          exact sub_cons rfl (sub_cons rfl (sub_cons rfl (sub_cons rfl (sub_cons' rfl (congrArg (Value.int .u64) (by omega)) (sub_cons rfl sub_nil)))))
        · rw [if_neg (by omega)]
          repeat' (first | refine ao_nil ?_ | refine aq_nil ?_ | ((first | apply ao_val | apply aq_val); exact wants_a; (first | exact ov_sindex rfl rfl hc (by omega) | exact ov_subK ((c.toNat : Int) - 48) rfl rfl (wrap_u8 (by omega) (by omega)) | exact ov_a); (exact rfl)) | refine zok ?_ | refine zqk ?_ | refine zon fun _ => ?_ | refine zow ?_ | refine zox ?_ | refine zoz ?_ | refine zoa fun vr lr hr => ?_ | (refine aw_is ?_; first | refine aw_seq ?_ | refine aw_block ?_ | refine aw_region ?_ | refine aw_skip ?_ | refine aw_exit ?_ | refine aw_ret ?_ | refine aw_label ?_ | refine aw_scope ?_ | refine zwt ?_ | refine zwf ?_ | refine zwd ?_) | refine zoT ?_ | refine zqT ?_ | refine zwT ?_ | refine zoF ?_ | refine zqF ?_ | refine zwF ?_ | refine zp ?_ | refine ib_exit ?_ | refine ib_other ?_ | refine zr1 ?_ | refine zr2 ?_ | refine zr3 ?_ | refine zrt ?_ | refine zrc ?_ | refine zrd ?_ | refine zoS (fun _ => ?_) (fun _ => ?_) | refine zqS (fun _ => ?_) (fun _ => ?_) | refine zwS (fun _ => ?_) (fun _ => ?_))
          exact fun w' hw => ⟨rfl, hw.below⟩
      · rw [if_neg (by omega)]
        repeat' (first | refine ao_nil ?_ | refine aq_nil ?_ | refine zov ?_ | refine zqv ?_ | refine zok ?_ | refine zqk ?_ | refine zon fun _ => ?_ | refine zow ?_ | refine zox ?_ | refine zoz ?_ | refine zoa fun vr lr hr => ?_ | (refine aw_is ?_; first | refine aw_seq ?_ | refine aw_block ?_ | refine aw_region ?_ | refine aw_skip ?_ | refine aw_exit ?_ | refine aw_ret ?_ | refine aw_label ?_ | refine aw_scope ?_ | refine zwt ?_ | refine zwf ?_ | refine zwd ?_) | refine zoT ?_ | refine zqT ?_ | refine zwT ?_ | refine zoF ?_ | refine zqF ?_ | refine zwF ?_ | refine zp ?_ | refine ib_exit ?_ | refine ib_other ?_ | refine zr1 ?_ | refine zr2 ?_ | refine zr3 ?_ | refine zrt ?_ | refine zrc ?_ | refine zrd ?_ | refine zoS (fun _ => ?_) (fun _ => ?_) | refine zqS (fun _ => ?_) (fun _ => ?_) | refine zwS (fun _ => ?_) (fun _ => ?_))
        exact fun w' hw => ⟨rfl, hw.below⟩
    · obtain rfl : i = figN l := by omega
      rw [if_pos (hmul.2 hle)]
      have hmm := hmul.2 hle
      repeat' (first | refine ao_nil ?_ | refine aq_nil ?_ | refine zov ?_ | refine zqv ?_ | refine zok ?_ | refine zqk ?_ | refine zon fun _ => ?_ | refine zow ?_ | refine zox ?_ | refine zoz ?_ | refine zoa fun vr lr hr => ?_ | (refine aw_is ?_; first | refine aw_seq ?_ | refine aw_block ?_ | refine aw_region ?_ | refine aw_skip ?_ | refine aw_exit ?_ | refine aw_ret ?_ | refine aw_label ?_ | refine aw_scope ?_ | refine zwt ?_ | refine zwf ?_ | refine zwd ?_) | refine zoT ?_ | refine zqT ?_ | refine zwT ?_ | refine zoF ?_ | refine zqF ?_ | refine zwF ?_ | refine zp ?_ | refine ib_exit ?_ | refine ib_other ?_ | refine zr1 ?_ | refine zr2 ?_ | refine zr3 ?_ | refine zrt ?_ | refine zrc ?_ | refine zrd ?_ | refine zoS (fun _ => ?_) (fun _ => ?_) | refine zqS (fun _ => ?_) (fun _ => ?_) | refine zwS (fun _ => ?_) (fun _ => ?_))
      exact fun w' hw => ⟨rfl, hw.below⟩
  · have hp : parseQ l = .tuple #[I 0, I 2] := by unfold parseQ; rw [hb]; rfl
    rw [hp]
    have hfac := rfac_ok (l.drop (figN l))
    by_cases h0 : figN l = 0
    · repeat' (first | refine ao_nil ?_ | refine aq_nil ?_ | ((first | apply ao_val | apply aq_val); exact wants_a; (first | exact ov_sslice_lo rfl rfl rfl hn | exact ov_a); (exact rfl)) | refine zok ?_ | refine zqk ?_ | refine zon fun _ => ?_ | refine zow ?_ | refine zox ?_ | refine zoz ?_ | refine zoa fun vr lr hr => ?_ | ((first | apply ao_call | apply aq_call); exact wants_a; (first | exact oc_func rfl | exact oc_clos rfl rfl); (exact rfl); (first | exact fun w hw => hfac w)) | (refine aw_is ?_; first | refine aw_seq ?_ | refine aw_block ?_ | refine aw_region ?_ | refine aw_skip ?_ | refine aw_exit ?_ | refine aw_ret ?_ | refine aw_label ?_ | refine aw_scope ?_ | refine zwt ?_ | refine zwf ?_ | refine zwd ?_) | refine zoT ?_ | refine zqT ?_ | refine zwT ?_ | refine zoF ?_ | refine zqF ?_ | refine zwF ?_ | refine zp ?_ | refine ib_exit ?_ | refine ib_other ?_ | refine zr1 ?_ | refine zr2 ?_ | refine zr3 ?_ | refine zrt ?_ | refine zrc ?_ | refine zrd ?_ | refine zoS (fun _ => ?_) (fun _ => ?_) | refine zqS (fun _ => ?_) (fun _ => ?_) | refine zwS (fun _ => ?_) (fun _ => ?_))
      exact fun w' hw => ⟨rfl, hw.below⟩
    obtain ⟨c0, hc0, -⟩ := figN_lt l 0 (by omega)
    by_cases h1 : 1 < figN l
    · by_cases hz : (c0.toNat : Int) = 48
      · repeat' (first | refine ao_nil ?_ | refine aq_nil ?_ | ((first | apply ao_val | apply aq_val); exact wants_a; (first | exact ov_sslice_lo rfl rfl rfl hn | exact ov_sindex rfl rfl hc0 (by omega) | exact ov_a); (exact rfl)) | refine zok ?_ | refine zqk ?_ | refine zon fun _ => ?_ | refine zow ?_ | refine zox ?_ | refine zoz ?_ | refine zoa fun vr lr hr => ?_ | ((first | apply ao_call | apply aq_call); exact wants_a; (first | exact oc_func rfl | exact oc_clos rfl rfl); (exact rfl); (first | exact fun w hw => hfac w)) | (refine aw_is ?_; first | refine aw_seq ?_ | refine aw_block ?_ | refine aw_region ?_ | refine aw_skip ?_ | refine aw_exit ?_ | refine aw_ret ?_ | refine aw_label ?_ | refine aw_scope ?_ | refine zwt ?_ | refine zwf ?_ | refine zwd ?_) | refine zoT ?_ | refine zqT ?_ | refine zwT ?_ | refine zoF ?_ | refine zqF ?_ | refine zwF ?_ | refine zp ?_ | refine ib_exit ?_ | refine ib_other ?_ | refine zr1 ?_ | refine zr2 ?_ | refine zr3 ?_ | refine zrt ?_ | refine zrc ?_ | refine zrd ?_ | refine zoS (fun _ => ?_) (fun _ => ?_) | refine zqS (fun _ => ?_) (fun _ => ?_) | refine zwS (fun _ => ?_) (fun _ => ?_))
        exact fun w' hw => ⟨rfl, hw.below⟩
      · have hf0 : facI (l.drop (figN l)) = 0 := by
          have : l[0]? ≠ some 48 := fun h => by rw [hc0] at h; cases h; exact hz rfl
          simp [badQ, h0, this] at hb
          exact hb
        rw [hf0] at hfac
        repeat' (first | refine ao_nil ?_ | refine aq_nil ?_ | ((first | apply ao_val | apply aq_val); exact wants_a; (first | exact ov_sslice_lo rfl rfl rfl hn | exact ov_sindex rfl rfl hc0 (by omega) | exact ov_a); (exact rfl)) | refine zok ?_ | refine zqk ?_ | refine zon fun _ => ?_ | refine zow ?_ | refine zox ?_ | refine zoz ?_ | refine zoa fun vr lr hr => ?_ | ((first | apply ao_call | apply aq_call); exact wants_a; (first | exact oc_func rfl | exact oc_clos rfl rfl); (exact rfl); (first | exact fun w hw => hfac w)) | (refine aw_is ?_; first | refine aw_seq ?_ | refine aw_block ?_ | refine aw_region ?_ | refine aw_skip ?_ | refine aw_exit ?_ | refine aw_ret ?_ | refine aw_label ?_ | refine aw_scope ?_ | refine zwt ?_ | refine zwf ?_ | refine zwd ?_) | refine zoT ?_ | refine zqT ?_ | refine zwT ?_ | refine zoF ?_ | refine zqF ?_ | refine zwF ?_ | refine zp ?_ | refine ib_exit ?_ | refine ib_other ?_ | refine zr1 ?_ | refine zr2 ?_ | refine zr3 ?_ | refine zrt ?_ | refine zrc ?_ | refine zrd ?_ | refine zoS (fun _ => ?_) (fun _ => ?_) | refine zqS (fun _ => ?_) (fun _ => ?_) | refine zwS (fun _ => ?_) (fun _ => ?_))
        exact fun w' hw => ⟨rfl, hw.below⟩
    · have hf0 : facI (l.drop (figN l)) = 0 := by
        simp [badQ, h0, h1] at hb
        exact hb
      rw [hf0] at hfac
      repeat' (first | refine ao_nil ?_ | refine aq_nil ?_ | ((first | apply ao_val | apply aq_val); exact wants_a; (first | exact ov_sslice_lo rfl rfl rfl hn | exact ov_a); (exact rfl)) | refine zok ?_ | refine zqk ?_ | refine zon fun _ => ?_ | refine zow ?_ | refine zox ?_ | refine zoz ?_ | refine zoa fun vr lr hr => ?_ | ((first | apply ao_call | apply aq_call); exact wants_a; (first | exact oc_func rfl | exact oc_clos rfl rfl); (exact rfl); (first | exact fun w hw => hfac w)) | (refine aw_is ?_; first | refine aw_seq ?_ | refine aw_block ?_ | refine aw_region ?_ | refine aw_skip ?_ | refine aw_exit ?_ | refine aw_ret ?_ | refine aw_label ?_ | refine aw_scope ?_ | refine zwt ?_ | refine zwf ?_ | refine zwd ?_) | refine zoT ?_ | refine zqT ?_ | refine zwT ?_ | refine zoF ?_ | refine zqF ?_ | refine zwF ?_ | refine zp ?_ | refine ib_exit ?_ | refine ib_other ?_ | refine zr1 ?_ | refine zr2 ?_ | refine zr3 ?_ | refine zrt ?_ | refine zrc ?_ | refine zrd ?_ | refine zoS (fun _ => ?_) (fun _ => ?_) | refine zqS (fun _ => ?_) (fun _ => ?_) | refine zwS (fun _ => ?_) (fun _ => ?_))
      exact fun w' hw => ⟨rfl, hw.below⟩
end Qty
end Go.Proofs.YteclgkemggmabaaDoor
