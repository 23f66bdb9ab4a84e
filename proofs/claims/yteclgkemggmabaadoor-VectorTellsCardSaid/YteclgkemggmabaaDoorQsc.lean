/- Contracts of the landed code of layer 3 that Parse rests on: Factor, needless, number, Parse; conditions: the package's table as it was laid; texts of at most 100,000 bytes. -/
import Derived.Test.YteclgkemggmabaaDoorQmath
namespace Go.Proofs.YteclgkemggmabaaDoor
namespace Qty
open Go Go.RowKit Sx Wid
attribute [local irreducible] Go.Calls

/-- The table: suffixes and factors. -/
def scL : List (List UInt8 × Int) := [([84, 105], 1099511627776), ([84], 1000000000000), ([71, 105], 1073741824), ([71], 1000000000), ([77, 105], 1048576), ([77], 1000000), ([75, 105], 1024), ([107], 1000), ([], 1)]
/-- Its cells. -/
def scV : List Value := scL.flatMap fun p => [S p.1, I p.2]
/-- The table lies as it was laid. -/
def GlS (w : World) : Prop := Glob w 3 scV
theorem GlS.below {w w' : World} (h : GlS w) (hb : Below w.heap.size w w') : GlS w' := Glob.below h hb
theorem sc_get (i : Nat) (h : i < 9) : ∃ s f, scL[i]? = some (s, f) ∧ (scV.drop (i * 3)).take 0 = [] ∧ (scV.drop (i * 2)).take 2 = [S s, I f] ∧ facI s = f ∧ 1 ≤ f ∧ f ≤ 1099511627776 ∧ s.length ≤ 2 := by
  match i, h with
  | 0, _ | 1, _ | 2, _ | 3, _ | 4, _ | 5, _ | 6, _ | 7, _ | 8, _ => exact ⟨_, _, rfl, rfl, rfl, by decide, by decide, by decide, by decide⟩
theorem facI_none {l : List UInt8} (h : ∀ (j : Nat), j < 9 → ∀ s f, scL[j]? = some (s, f) → s ≠ l) : facI l = 0 := by
  have h0 := h 0 (by omega) _ _ rfl
  have h1 := h 1 (by omega) _ _ rfl
  have h2 := h 2 (by omega) _ _ rfl
  have h3 := h 3 (by omega) _ _ rfl
  have h4 := h 4 (by omega) _ _ rfl
  have h5 := h 5 (by omega) _ _ rfl
  have h6 := h 6 (by omega) _ _ rfl
  have h7 := h 7 (by omega) _ _ rfl
  have h8 := h 8 (by omega) _ _ rfl
  unfold facI
  rw [if_neg h8.symm, if_neg h7.symm, if_neg h5.symm, if_neg h3.symm, if_neg h1.symm, if_neg h6.symm, if_neg h4.symm, if_neg h2.symm, if_neg h0.symm]

set_option maxHeartbeats 1000000 in
theorem fac_ok (l : List UInt8) (w : World) (hG : GlS w) : Calls Tryd.prog 75 #[S l] w fun e w' => e = .returned (I (facI l)) ∧ Below w.heap.size w w' := by
  refine calls1 (args := [S l]) Tryd.func75 rfl rfl rfl rfl ?_
  repeat' (first | refine ao_nil ?_ | refine aq_nil ?_ | ((first | apply ao_val | apply aq_val); exact wants_a; (first | exact ov_load_ga rfl hG rfl rfl | exact ov_a); (exact rfl)) | refine zok ?_ | refine zqk ?_ | refine zon fun _ => ?_ | refine zow ?_ | refine zox ?_ | refine zoz ?_ | refine zoa fun vr lr hr => ?_ | (refine aw_is ?_; first | refine aw_seq ?_ | refine aw_block ?_ | refine aw_region ?_ | refine aw_skip ?_ | refine aw_exit ?_ | refine aw_ret ?_ | refine aw_label ?_ | refine aw_scope ?_ | refine zwt ?_ | refine zwf ?_ | refine zwd ?_) | refine zoT ?_ | refine zqT ?_ | refine zwT ?_ | refine zoF ?_ | refine zqF ?_ | refine zwF ?_ | refine zp ?_ | refine ib_exit ?_ | refine ib_other ?_ | refine zr1 ?_ | refine zr2 ?_ | refine zr3 ?_ | refine zrt ?_ | refine zrc ?_ | refine zrd ?_ | refine zoS (fun _ => ?_) (fun _ => ?_) | refine zqS (fun _ => ?_) (fun _ => ?_) | refine zwS (fun _ => ?_) (fun _ => ?_))
  refine aw_for (t0 := [(0, S l), (5, .agg scV.toArray), (6, I (0 : Nat))]) (fun q t H => ∃ i : Nat, q = 9 - i ∧ i ≤ 9 ∧ (∀ (j : Nat), j < i → ∀ s f, scL[j]? = some (s, f) → s ≠ l) ∧ t = [(0, S l), (5, .agg scV.toArray), (6, I i)] ∧ H = []) ⟨0, rfl, by omega, fun j hj => by omega, rfl, rfl⟩ (by repeat (first | exact sub_nil | refine sub_cons rfl ?_)) ?_
  rintro q t H ⟨i, rfl, hi, hnone, rfl, rfl⟩
  by_cases hlt : i < 9
  · obtain ⟨s, f, hs, -, hcell, hf, hf1, hf2, hsl⟩ := sc_get i hlt
    by_cases he : s = l
    · subst he
      rw [hf]
      have hself : (s == s) = true := beq_self_eq_true s
      repeat' (first | refine ao_nil ?_ | refine aq_nil ?_ | ((first | apply ao_val | apply aq_val); exact wants_a; (first | exact ov_aindex rfl rfl rfl hlt hcell | exact ov_a); (exact rfl)) | refine zok ?_ | refine zqk ?_ | refine zon fun _ => ?_ | refine zow ?_ | refine zox ?_ | refine zoz ?_ | refine zoa fun vr lr hr => ?_ | (refine aw_is ?_; first | refine aw_seq ?_ | refine aw_block ?_ | refine aw_region ?_ | refine aw_skip ?_ | refine aw_exit ?_ | refine aw_ret ?_ | refine aw_label ?_ | refine aw_scope ?_ | refine zwt ?_ | refine zwf ?_ | refine zwd ?_) | refine zoT ?_ | refine zqT ?_ | refine zwT ?_ | refine zoF ?_ | refine zqF ?_ | refine zwF ?_ | refine zp ?_ | refine ib_exit ?_ | refine ib_other ?_ | refine zr1 ?_ | refine zr2 ?_ | refine zr3 ?_ | refine zrt ?_ | refine zrc ?_ | refine zrd ?_ | refine zoS (fun _ => ?_) (fun _ => ?_) | refine zqS (fun _ => ?_) (fun _ => ?_) | refine zwS (fun _ => ?_) (fun _ => ?_))
      exact fun w' hw => ⟨rfl, hw.below⟩
    · have hne : (s == l) = false := beq_eq_false_iff_ne.2 he
      repeat' (first | refine ao_nil ?_ | refine aq_nil ?_ | ((first | apply ao_val | apply aq_val); exact wants_a; (first | exact ov_aindex rfl rfl rfl hlt hcell | exact ov_a); (exact rfl)) | refine zok ?_ | refine zqk ?_ | refine zon fun _ => ?_ | refine zow ?_ | refine zox ?_ | refine zoz ?_ | refine zoa fun vr lr hr => ?_ | (refine aw_is ?_; first | refine aw_seq ?_ | refine aw_block ?_ | refine aw_region ?_ | refine aw_skip ?_ | refine aw_exit ?_ | refine aw_ret ?_ | refine aw_label ?_ | refine aw_scope ?_ | refine zwt ?_ | refine zwf ?_ | refine zwd ?_) | refine zoT ?_ | refine zqT ?_ | refine zwT ?_ | refine zoF ?_ | refine zqF ?_ | refine zwF ?_ | refine zp ?_ | refine ib_exit ?_ | refine ib_other ?_ | refine zr1 ?_ | refine zr2 ?_ | refine zr3 ?_ | refine zrt ?_ | refine zrc ?_ | refine zrd ?_ | refine zoS (fun _ => ?_) (fun _ => ?_) | refine zqS (fun _ => ?_) (fun _ => ?_) | refine zwS (fun _ => ?_) (fun _ => ?_))
      exact lq_normal' ⟨i + 1, rfl, by omega, fun j hj s' f' hs' => by
        by_cases e : j = i
        · subst e; rw [hs] at hs'; cases hs'; exact he
        · exact hnone j (by omega) s' f' hs', rfl, rfl⟩ (by omega) (by repeat (first | exact sub_nil | refine sub_cons rfl ?_)) hsub_a
  · obtain rfl : i = 9 := by omega
    rw [facI_none hnone]
    repeat' (first | refine ao_nil ?_ | refine aq_nil ?_ | refine zov ?_ | refine zqv ?_ | refine zok ?_ | refine zqk ?_ | refine zon fun _ => ?_ | refine zow ?_ | refine zox ?_ | refine zoz ?_ | refine zoa fun vr lr hr => ?_ | (refine aw_is ?_; first | refine aw_seq ?_ | refine aw_block ?_ | refine aw_region ?_ | refine aw_skip ?_ | refine aw_exit ?_ | refine aw_ret ?_ | refine aw_label ?_ | refine aw_scope ?_ | refine zwt ?_ | refine zwf ?_ | refine zwd ?_) | refine zoT ?_ | refine zqT ?_ | refine zwT ?_ | refine zoF ?_ | refine zqF ?_ | refine zwF ?_ | refine zp ?_ | refine ib_exit ?_ | refine ib_other ?_ | refine zr1 ?_ | refine zr2 ?_ | refine zr3 ?_ | refine zrt ?_ | refine zrc ?_ | refine zrd ?_ | refine zoS (fun _ => ?_) (fun _ => ?_) | refine zqS (fun _ => ?_) (fun _ => ?_) | refine zwS (fun _ => ?_) (fun _ => ?_))
    exact fun w' hw => ⟨rfl, hw.below⟩

theorem needless_ok (l : List UInt8) (hl : l.length ≤ 100000) (w : World) : Calls Tryd.prog 76 #[S l] w fun e w' => e = .returned (.bool (decide (1 < l.length) && l[0]? == some 48)) ∧ Below w.heap.size w w' := by
  refine calls1 (args := [S l]) Tryd.func76 rfl rfl rfl rfl ?_
  cases l with
  | nil =>
    repeat' (first | refine ao_nil ?_ | refine aq_nil ?_ | refine zov ?_ | refine zqv ?_ | refine zok ?_ | refine zqk ?_ | refine zon fun _ => ?_ | refine zow ?_ | refine zox ?_ | refine zoz ?_ | refine zoa fun vr lr hr => ?_ | (refine aw_is ?_; first | refine aw_seq ?_ | refine aw_block ?_ | refine aw_region ?_ | refine aw_skip ?_ | refine aw_exit ?_ | refine aw_ret ?_ | refine aw_label ?_ | refine aw_scope ?_ | refine zwt ?_ | refine zwf ?_ | refine zwd ?_) | refine zoT ?_ | refine zqT ?_ | refine zwT ?_ | refine zoF ?_ | refine zqF ?_ | refine zwF ?_ | refine zp ?_ | refine ib_exit ?_ | refine ib_other ?_ | refine zr1 ?_ | refine zr2 ?_ | refine zr3 ?_ | refine zrt ?_ | refine zrc ?_ | refine zrd ?_ | refine zoS (fun _ => ?_) (fun _ => ?_) | refine zqS (fun _ => ?_) (fun _ => ?_) | refine zwS (fun _ => ?_) (fun _ => ?_))
    exact fun w' hw => ⟨rfl, hw.below⟩
  | cons c r =>
    have hc : (c :: r)[0]? = some c := rfl
    by_cases h1 : 1 < (c :: r).length
    · by_cases h2 : (c.toNat : Int) = 48
      · have : c = 48 := UInt8.toNat.inj (by simp; omega)
        rw [show (decide (1 < (c :: r).length) && (c :: r)[0]? == some 48) = true by simp [this]; simpa using h1]
        repeat' (first | refine ao_nil ?_ | refine aq_nil ?_ | ((first | apply ao_val | apply aq_val); exact wants_a; (first | exact ov_sindex rfl rfl hc (by omega) | exact ov_a); (exact rfl)) | refine zok ?_ | refine zqk ?_ | refine zon fun _ => ?_ | refine zow ?_ | refine zox ?_ | refine zoz ?_ | refine zoa fun vr lr hr => ?_ | (refine aw_is ?_; first | refine aw_seq ?_ | refine aw_block ?_ | refine aw_region ?_ | refine aw_skip ?_ | refine aw_exit ?_ | refine aw_ret ?_ | refine aw_label ?_ | refine aw_scope ?_ | refine zwt ?_ | refine zwf ?_ | refine zwd ?_) | refine zoT ?_ | refine zqT ?_ | refine zwT ?_ | refine zoF ?_ | refine zqF ?_ | refine zwF ?_ | refine zp ?_ | refine ib_exit ?_ | refine ib_other ?_ | refine zr1 ?_ | refine zr2 ?_ | refine zr3 ?_ | refine zrt ?_ | refine zrc ?_ | refine zrd ?_ | refine zoS (fun _ => ?_) (fun _ => ?_) | refine zqS (fun _ => ?_) (fun _ => ?_) | refine zwS (fun _ => ?_) (fun _ => ?_))
        all_goals exact fun w' hw => ⟨by first | rfl | simp [h2], hw.below⟩
      · have : c ≠ 48 := fun h => h2 (by rw [h]; rfl)
        rw [show (decide (1 < (c :: r).length) && (c :: r)[0]? == some 48) = false by simp [this]]
        repeat' (first | refine ao_nil ?_ | refine aq_nil ?_ | ((first | apply ao_val | apply aq_val); exact wants_a; (first | exact ov_sindex rfl rfl hc (by omega) | exact ov_a); (exact rfl)) | refine zok ?_ | refine zqk ?_ | refine zon fun _ => ?_ | refine zow ?_ | refine zox ?_ | refine zoz ?_ | refine zoa fun vr lr hr => ?_ | (refine aw_is ?_; first | refine aw_seq ?_ | refine aw_block ?_ | refine aw_region ?_ | refine aw_skip ?_ | refine aw_exit ?_ | refine aw_ret ?_ | refine aw_label ?_ | refine aw_scope ?_ | refine zwt ?_ | refine zwf ?_ | refine zwd ?_) | refine zoT ?_ | refine zqT ?_ | refine zwT ?_ | refine zoF ?_ | refine zqF ?_ | refine zwF ?_ | refine zp ?_ | refine ib_exit ?_ | refine ib_other ?_ | refine zr1 ?_ | refine zr2 ?_ | refine zr3 ?_ | refine zrt ?_ | refine zrc ?_ | refine zrd ?_ | refine zoS (fun _ => ?_) (fun _ => ?_) | refine zqS (fun _ => ?_) (fun _ => ?_) | refine zwS (fun _ => ?_) (fun _ => ?_))
        all_goals exact fun w' hw => ⟨by first | rfl | simp [h2], hw.below⟩
    · rw [show (decide (1 < (c :: r).length) && (c :: r)[0]? == some 48) = false by simp only [h1, decide_false, Bool.false_and]]
      repeat' (first | refine ao_nil ?_ | refine aq_nil ?_ | ((first | apply ao_val | apply aq_val); exact wants_a; (first | exact ov_sindex rfl rfl hc (by omega) | exact ov_a); (exact rfl)) | refine zok ?_ | refine zqk ?_ | refine zon fun _ => ?_ | refine zow ?_ | refine zox ?_ | refine zoz ?_ | refine zoa fun vr lr hr => ?_ | (refine aw_is ?_; first | refine aw_seq ?_ | refine aw_block ?_ | refine aw_region ?_ | refine aw_skip ?_ | refine aw_exit ?_ | refine aw_ret ?_ | refine aw_label ?_ | refine aw_scope ?_ | refine zwt ?_ | refine zwf ?_ | refine zwd ?_) | refine zoT ?_ | refine zqT ?_ | refine zwT ?_ | refine zoF ?_ | refine zqF ?_ | refine zwF ?_ | refine zp ?_ | refine ib_exit ?_ | refine ib_other ?_ | refine zr1 ?_ | refine zr2 ?_ | refine zr3 ?_ | refine zrt ?_ | refine zrc ?_ | refine zrd ?_ | refine zoS (fun _ => ?_) (fun _ => ?_) | refine zqS (fun _ => ?_) (fun _ => ?_) | refine zwS (fun _ => ?_) (fun _ => ?_))
      all_goals exact fun w' hw => ⟨by first | rfl | simp [h2], hw.below⟩

/-- The number of the first i figures, or 0 where it is too great. -/
def numV (l : List UInt8) (i : Nat) : Int := if valP l i ≤ 9223372036854775807 then valP l i else 0

set_option maxHeartbeats 4000000 in
theorem number_ok (l : List UInt8) (hl : l.length ≤ 100000) (w : World) : Calls Tryd.prog 74 #[S l] w fun e w' => e = .returned (.tuple #[I (numV l (figN l)), I (figN l), .bool (decide (valP l (figN l) ≤ 9223372036854775807))]) ∧ Below w.heap.size w w' := by
  have hn := figN_le l
  refine calls3 (args := [S l]) Tryd.func74 rfl rfl rfl rfl ?_
  repeat' (first | refine ao_nil ?_ | refine aq_nil ?_ | refine zov ?_ | refine zqv ?_ | refine zok ?_ | refine zqk ?_ | refine zon fun _ => ?_ | refine zow ?_ | refine zox ?_ | refine zoz ?_ | refine zoa fun vr lr hr => ?_ | (refine aw_is ?_; first | refine aw_seq ?_ | refine aw_block ?_ | refine aw_region ?_ | refine aw_skip ?_ | refine aw_exit ?_ | refine aw_ret ?_ | refine aw_label ?_ | refine aw_scope ?_ | refine zwt ?_ | refine zwf ?_ | refine zwd ?_) | refine zoT ?_ | refine zqT ?_ | refine zwT ?_ | refine zoF ?_ | refine zqF ?_ | refine zwF ?_ | refine zp ?_ | refine ib_exit ?_ | refine ib_other ?_ | refine zr1 ?_ | refine zr2 ?_ | refine zr3 ?_ | refine zrt ?_ | refine zrc ?_ | refine zrd ?_ | refine zoS (fun _ => ?_) (fun _ => ?_) | refine zqS (fun _ => ?_) (fun _ => ?_) | refine zwS (fun _ => ?_) (fun _ => ?_))
  refine aw_for (t0 := [(0, S l), (2, I 0), (3, I (0 : Nat)), (4, .bool true)]) (fun q t H => ∃ (i : Nat) (u : Int) (f : Bool), q = figN l + 1 - i ∧ i ≤ figN l ∧ (f = true → u = valP l i ∧ valP l i ≤ 9223372036854775807) ∧ (f = false → u = 0 ∧ 9223372036854775807 < valP l i) ∧ t = [(0, S l), (2, I u), (3, I i), (4, .bool f)] ∧ H = []) ⟨0, 0, true, rfl, by omega, fun _ => ⟨rfl, by simp [valP]⟩, fun h => (by cases h), rfl, rfl⟩ (by repeat (first | exact sub_nil | refine sub_cons rfl ?_)) ?_
  rintro q t H ⟨i, u, f, rfl, hi, ht, hf, rfl, rfl⟩
  by_cases hlt : i < figN l
  · obtain ⟨c, hc, hfg⟩ := figN_lt l i hlt
    have hr := fig_rng hfg
    have hcl := c.toNat_lt
    have hs := valP_succ hc
    have h0 := valP_nonneg l i hi
    cases f with
    | true =>
      obtain ⟨rfl, hle⟩ := ht rfl
      by_cases h2 : valP l (i + 1) ≤ 9223372036854775807
      · generalize valP l i = u at *
        repeat' (first | refine ao_nil ?_ | refine aq_nil ?_ | ((first | apply ao_val | apply aq_val); exact wants_a; (first | exact ov_sindex rfl rfl hc (by omega) | exact ov_a); (exact rfl)) | refine zok ?_ | refine zqk ?_ | refine zon fun _ => ?_ | refine zow ?_ | refine zox ?_ | refine zoz ?_ | refine zoa fun vr lr hr => ?_ | (refine aw_is ?_; first | refine aw_seq ?_ | refine aw_block ?_ | refine aw_region ?_ | refine aw_skip ?_ | refine aw_exit ?_ | refine aw_ret ?_ | refine aw_label ?_ | refine aw_scope ?_ | refine zwt ?_ | refine zwf ?_ | refine zwd ?_) | refine zoT ?_ | refine zqT ?_ | refine zwT ?_ | refine zoF ?_ | refine zqF ?_ | refine zwF ?_ | refine zp ?_ | refine ib_exit ?_ | refine ib_other ?_ | refine zr1 ?_ | refine zr2 ?_ | refine zr3 ?_ | refine zrt ?_ | refine zrc ?_ | refine zrd ?_ | refine zoS (fun _ => ?_) (fun _ => ?_) | refine zqS (fun _ => ?_) (fun _ => ?_) | refine zwS (fun _ => ?_) (fun _ => ?_))
        refine lq_normal ⟨i + 1, valP l (i + 1), true, rfl, by omega, fun _ => ⟨rfl, h2⟩, fun h => (by cases h), rfl, rfl⟩ (by omega) ?_
        rw [hs]
        exact sub_cons rfl (sub_cons' rfl (congrArg (Value.int .i64) (by omega)) (sub_cons rfl (sub_cons rfl sub_nil)))
      · generalize valP l i = u at *
        repeat' (first | refine ao_nil ?_ | refine aq_nil ?_ | ((first | apply ao_val | apply aq_val); exact wants_a; (first | exact ov_sindex rfl rfl hc (by omega) | exact ov_a); (exact rfl)) | refine zok ?_ | refine zqk ?_ | refine zon fun _ => ?_ | refine zow ?_ | refine zox ?_ | refine zoz ?_ | refine zoa fun vr lr hr => ?_ | (refine aw_is ?_; first | refine aw_seq ?_ | refine aw_block ?_ | refine aw_region ?_ | refine aw_skip ?_ | refine aw_exit ?_ | refine aw_ret ?_ | refine aw_label ?_ | refine aw_scope ?_ | refine zwt ?_ | refine zwf ?_ | refine zwd ?_) | refine zoT ?_ | refine zqT ?_ | refine zwT ?_ | refine zoF ?_ | refine zqF ?_ | refine zwF ?_ | refine zp ?_ | refine ib_exit ?_ | refine ib_other ?_ | refine zr1 ?_ | refine zr2 ?_ | refine zr3 ?_ | refine zrt ?_ | refine zrc ?_ | refine zrd ?_ | refine zoS (fun _ => ?_) (fun _ => ?_) | refine zqS (fun _ => ?_) (fun _ => ?_) | refine zwS (fun _ => ?_) (fun _ => ?_))
        exact lq_normal ⟨i + 1, 0, false, rfl, by omega, fun h => (by cases h), fun _ => ⟨rfl, by omega⟩, rfl, rfl⟩ (by omega) (by repeat (first | exact sub_nil | refine sub_cons rfl ?_))
    | false =>
      obtain ⟨rfl, hgt⟩ := hf rfl
      repeat' (first | refine ao_nil ?_ | refine aq_nil ?_ | ((first | apply ao_val | apply aq_val); exact wants_a; (first | exact ov_sindex rfl rfl hc (by omega) | exact ov_a); (exact rfl)) | refine zok ?_ | refine zqk ?_ | refine zon fun _ => ?_ | refine zow ?_ | refine zox ?_ | refine zoz ?_ | refine zoa fun vr lr hr => ?_ | (refine aw_is ?_; first | refine aw_seq ?_ | refine aw_block ?_ | refine aw_region ?_ | refine aw_skip ?_ | refine aw_exit ?_ | refine aw_ret ?_ | refine aw_label ?_ | refine aw_scope ?_ | refine zwt ?_ | refine zwf ?_ | refine zwd ?_) | refine zoT ?_ | refine zqT ?_ | refine zwT ?_ | refine zoF ?_ | refine zqF ?_ | refine zwF ?_ | refine zp ?_ | refine ib_exit ?_ | refine ib_other ?_ | refine zr1 ?_ | refine zr2 ?_ | refine zr3 ?_ | refine zrt ?_ | refine zrc ?_ | refine zrd ?_ | refine zoS (fun _ => ?_) (fun _ => ?_) | refine zqS (fun _ => ?_) (fun _ => ?_) | refine zwS (fun _ => ?_) (fun _ => ?_))
      exact lq_normal ⟨i + 1, 0, false, rfl, by omega, fun h => (by cases h), fun _ => ⟨rfl, by omega⟩, rfl, rfl⟩ (by omega) (by repeat (first | exact sub_nil | refine sub_cons rfl ?_))
  · obtain rfl : i = figN l := by omega
    have e1 : numV l (figN l) = u := by
      unfold numV
      cases f with
      | true => rw [if_pos (ht rfl).2, (ht rfl).1]
      | false => rw [if_neg (by have := (hf rfl).2; omega), (hf rfl).1]
    have e2 : decide (valP l (figN l) ≤ 9223372036854775807) = f := by
      cases f with
      | true => exact decide_eq_true (ht rfl).2
      | false => exact decide_eq_false (by have := (hf rfl).2; omega)
    rw [e1, e2]
    by_cases he : figN l < l.length
    · have hc : l[figN l]? = some l[figN l] := by simp [he]
      generalize l[figN l] = c at hc
      have hs := figN_stop l c hc
      have hcl := c.toNat_lt
      by_cases h48 : 48 ≤ (c.toNat : Int)
      · have h57 : ¬ (c.toNat : Int) ≤ 57 := fun h => by simp [isFig] at hs; omega
        repeat' (first | refine ao_nil ?_ | refine aq_nil ?_ | ((first | apply ao_val | apply aq_val); exact wants_a; (first | exact ov_sindex rfl rfl hc (by omega) | exact ov_a); (exact rfl)) | refine zok ?_ | refine zqk ?_ | refine zon fun _ => ?_ | refine zow ?_ | refine zox ?_ | refine zoz ?_ | refine zoa fun vr lr hr => ?_ | (refine aw_is ?_; first | refine aw_seq ?_ | refine aw_block ?_ | refine aw_region ?_ | refine aw_skip ?_ | refine aw_exit ?_ | refine aw_ret ?_ | refine aw_label ?_ | refine aw_scope ?_ | refine zwt ?_ | refine zwf ?_ | refine zwd ?_) | refine zoT ?_ | refine zqT ?_ | refine zwT ?_ | refine zoF ?_ | refine zqF ?_ | refine zwF ?_ | refine zp ?_ | refine ib_exit ?_ | refine ib_other ?_ | refine zr1 ?_ | refine zr2 ?_ | refine zr3 ?_ | refine zrt ?_ | refine zrc ?_ | refine zrd ?_ | refine zoS (fun _ => ?_) (fun _ => ?_) | refine zqS (fun _ => ?_) (fun _ => ?_) | refine zwS (fun _ => ?_) (fun _ => ?_))
        exact fun w' hw => ⟨rfl, hw.below⟩
      · repeat' (first | refine ao_nil ?_ | refine aq_nil ?_ | ((first | apply ao_val | apply aq_val); exact wants_a; (first | exact ov_sindex rfl rfl hc (by omega) | exact ov_a); (exact rfl)) | refine zok ?_ | refine zqk ?_ | refine zon fun _ => ?_ | refine zow ?_ | refine zox ?_ | refine zoz ?_ | refine zoa fun vr lr hr => ?_ | (refine aw_is ?_; first | refine aw_seq ?_ | refine aw_block ?_ | refine aw_region ?_ | refine aw_skip ?_ | refine aw_exit ?_ | refine aw_ret ?_ | refine aw_label ?_ | refine aw_scope ?_ | refine zwt ?_ | refine zwf ?_ | refine zwd ?_) | refine zoT ?_ | refine zqT ?_ | refine zwT ?_ | refine zoF ?_ | refine zqF ?_ | refine zwF ?_ | refine zp ?_ | refine ib_exit ?_ | refine ib_other ?_ | refine zr1 ?_ | refine zr2 ?_ | refine zr3 ?_ | refine zrt ?_ | refine zrc ?_ | refine zrd ?_ | refine zoS (fun _ => ?_) (fun _ => ?_) | refine zqS (fun _ => ?_) (fun _ => ?_) | refine zwS (fun _ => ?_) (fun _ => ?_))
        exact fun w' hw => ⟨rfl, hw.below⟩
    · repeat' (first | refine ao_nil ?_ | refine aq_nil ?_ | refine zov ?_ | refine zqv ?_ | refine zok ?_ | refine zqk ?_ | refine zon fun _ => ?_ | refine zow ?_ | refine zox ?_ | refine zoz ?_ | refine zoa fun vr lr hr => ?_ | (refine aw_is ?_; first | refine aw_seq ?_ | refine aw_block ?_ | refine aw_region ?_ | refine aw_skip ?_ | refine aw_exit ?_ | refine aw_ret ?_ | refine aw_label ?_ | refine aw_scope ?_ | refine zwt ?_ | refine zwf ?_ | refine zwd ?_) | refine zoT ?_ | refine zqT ?_ | refine zwT ?_ | refine zoF ?_ | refine zqF ?_ | refine zwF ?_ | refine zp ?_ | refine ib_exit ?_ | refine ib_other ?_ | refine zr1 ?_ | refine zr2 ?_ | refine zr3 ?_ | refine zrt ?_ | refine zrc ?_ | refine zrd ?_ | refine zoS (fun _ => ?_) (fun _ => ?_) | refine zqS (fun _ => ?_) (fun _ => ?_) | refine zwS (fun _ => ?_) (fun _ => ?_))
      exact fun w' hw => ⟨rfl, hw.below⟩
theorem take_head {l : List UInt8} {n : Nat} (h : 1 < n) : (l.take n)[0]? = l[0]? := by
  rw [List.getElem?_take_of_lt (by omega)]

set_option maxHeartbeats 4000000 in
theorem parse_ok (l : List UInt8) (hl : l.length ≤ 100000) (w : World) (hG : GlS w) : Calls Tryd.prog 52 #[S l] w fun e w' => e = .returned (parseQ l) ∧ Below w.heap.size w w' := by
  have hn := figN_le l
  have hfac : ∀ w, GlS w → Calls Tryd.prog 75 #[S (l.drop (figN l))] w fun e w' => e = .returned (I (facI (l.drop (figN l)))) ∧ Below w.heap.size w w' := fun w h => fac_ok _ w h
  have hnum : ∀ w, Calls Tryd.prog 74 #[S l] w fun e w' => e = .returned (.tuple #[I (numV l (figN l)), I (figN l), .bool (decide (valP l (figN l) ≤ 9223372036854775807))]) ∧ Below w.heap.size w w' := fun w => number_ok l hl w
  have hlt : (l.take (figN l)).length = figN l := by simp; omega
  have hnl : ∀ w, Calls Tryd.prog 76 #[S (l.take (figN l))] w fun e w' => e = .returned (.bool (decide (1 < figN l) && l[0]? == some 48)) ∧ Below w.heap.size w w' := fun w => by
    have := needless_ok (l.take (figN l)) (by omega) w
    rw [hlt] at this
    by_cases h1 : 1 < figN l
    · rwa [take_head h1] at this
    · simpa [h1] using this
  have hV0 := valP_nonneg l (figN l) (Nat.le_refl _)
  have hFr := facI_rng (l.drop (figN l))
  have hpq : parseQ l = if badQ l then .tuple #[I 0, I 2] else if valP l (figN l) * facI (l.drop (figN l)) ≤ 9223372036854775807 then .tuple #[I (valP l (figN l) * facI (l.drop (figN l))), I 0] else .tuple #[I 0, I 3] := rfl
  rw [hpq]
  have hbq : badQ l = (figN l == 0 || (decide (1 < figN l) && l[0]? == some 48) || facI (l.drop (figN l)) == 0) := rfl
  rw [hbq]
  unfold numV at hnum
  generalize facI (l.drop (figN l)) = F at *
  generalize valP l (figN l) = V at *
  generalize hnd : (decide (1 < figN l) && l[0]? == some 48) = nd at *
  refine calls2 (args := [S l]) Tryd.func52 rfl rfl rfl rfl ?_
  by_cases h0 : figN l = 0
  · rw [if_pos (by simp [h0])]
    have h0' : ((figN l : Int) == 0) = true := beq_iff_eq.2 (by omega)
    by_cases hVM : V ≤ 9223372036854775807
    · rw [if_pos hVM, decide_eq_true hVM] at hnum
      repeat' (first | refine ao_nil ?_ | refine aq_nil ?_ | ((first | apply ao_val | apply aq_val); exact wants_a; (first | exact ov_sslice_lo rfl rfl rfl hn | exact ov_sslice_hi rfl rfl rfl hn | exact ov_a); (exact rfl)) | refine zok ?_ | refine zqk ?_ | refine zon fun _ => ?_ | refine zow ?_ | refine zox ?_ | refine zoz ?_ | refine zoa fun vr lr hr => ?_ | ((first | apply ao_call | apply aq_call); exact wants_a; (first | exact oc_func rfl | exact oc_clos rfl rfl); (exact rfl); (first | exact fun w hw => hnum w | exact fun w hw => hfac w (hG.below hw.below) | exact fun w hw => hnl w)) | (refine aw_is ?_; first | refine aw_seq ?_ | refine aw_block ?_ | refine aw_region ?_ | refine aw_skip ?_ | refine aw_exit ?_ | refine aw_ret ?_ | refine aw_label ?_ | refine aw_scope ?_ | refine zwt ?_ | refine zwf ?_ | refine zwd ?_) | refine zoT ?_ | refine zqT ?_ | refine zwT ?_ | refine zoF ?_ | refine zqF ?_ | refine zwF ?_ | refine zp ?_ | refine ib_exit ?_ | refine ib_other ?_ | refine zr1 ?_ | refine zr2 ?_ | refine zr3 ?_ | refine zrt ?_ | refine zrc ?_ | refine zrd ?_ | refine zoS (fun _ => ?_) (fun _ => ?_) | refine zqS (fun _ => ?_) (fun _ => ?_) | refine zwS (fun _ => ?_) (fun _ => ?_))
      all_goals exact fun w' hw => ⟨rfl, hw.below⟩
    · rw [if_neg hVM, decide_eq_false hVM] at hnum
      repeat' (first | refine ao_nil ?_ | refine aq_nil ?_ | ((first | apply ao_val | apply aq_val); exact wants_a; (first | exact ov_sslice_lo rfl rfl rfl hn | exact ov_sslice_hi rfl rfl rfl hn | exact ov_a); (exact rfl)) | refine zok ?_ | refine zqk ?_ | refine zon fun _ => ?_ | refine zow ?_ | refine zox ?_ | refine zoz ?_ | refine zoa fun vr lr hr => ?_ | ((first | apply ao_call | apply aq_call); exact wants_a; (first | exact oc_func rfl | exact oc_clos rfl rfl); (exact rfl); (first | exact fun w hw => hnum w | exact fun w hw => hfac w (hG.below hw.below) | exact fun w hw => hnl w)) | (refine aw_is ?_; first | refine aw_seq ?_ | refine aw_block ?_ | refine aw_region ?_ | refine aw_skip ?_ | refine aw_exit ?_ | refine aw_ret ?_ | refine aw_label ?_ | refine aw_scope ?_ | refine zwt ?_ | refine zwf ?_ | refine zwd ?_) | refine zoT ?_ | refine zqT ?_ | refine zwT ?_ | refine zoF ?_ | refine zqF ?_ | refine zwF ?_ | refine zp ?_ | refine ib_exit ?_ | refine ib_other ?_ | refine zr1 ?_ | refine zr2 ?_ | refine zr3 ?_ | refine zrt ?_ | refine zrc ?_ | refine zrd ?_ | refine zoS (fun _ => ?_) (fun _ => ?_) | refine zqS (fun _ => ?_) (fun _ => ?_) | refine zwS (fun _ => ?_) (fun _ => ?_))
      all_goals exact fun w' hw => ⟨rfl, hw.below⟩
  have h0' : ((figN l : Int) == 0) = false := beq_eq_false_iff_ne.2 (by omega)
  cases nd with
  | true =>
    rw [if_pos (by simp)]
    by_cases hVM : V ≤ 9223372036854775807
    · rw [if_pos hVM, decide_eq_true hVM] at hnum
      repeat' (first | refine ao_nil ?_ | refine aq_nil ?_ | ((first | apply ao_val | apply aq_val); exact wants_a; (first | exact ov_sslice_lo rfl rfl rfl hn | exact ov_sslice_hi rfl rfl rfl hn | exact ov_a); (exact rfl)) | refine zok ?_ | refine zqk ?_ | refine zon fun _ => ?_ | refine zow ?_ | refine zox ?_ | refine zoz ?_ | refine zoa fun vr lr hr => ?_ | ((first | apply ao_call | apply aq_call); exact wants_a; (first | exact oc_func rfl | exact oc_clos rfl rfl); (exact rfl); (first | exact fun w hw => hnum w | exact fun w hw => hfac w (hG.below hw.below) | exact fun w hw => hnl w)) | (refine aw_is ?_; first | refine aw_seq ?_ | refine aw_block ?_ | refine aw_region ?_ | refine aw_skip ?_ | refine aw_exit ?_ | refine aw_ret ?_ | refine aw_label ?_ | refine aw_scope ?_ | refine zwt ?_ | refine zwf ?_ | refine zwd ?_) | refine zoT ?_ | refine zqT ?_ | refine zwT ?_ | refine zoF ?_ | refine zqF ?_ | refine zwF ?_ | refine zp ?_ | refine ib_exit ?_ | refine ib_other ?_ | refine zr1 ?_ | refine zr2 ?_ | refine zr3 ?_ | refine zrt ?_ | refine zrc ?_ | refine zrd ?_ | refine zoS (fun _ => ?_) (fun _ => ?_) | refine zqS (fun _ => ?_) (fun _ => ?_) | refine zwS (fun _ => ?_) (fun _ => ?_))
      all_goals exact fun w' hw => ⟨rfl, hw.below⟩
    · rw [if_neg hVM, decide_eq_false hVM] at hnum
      repeat' (first | refine ao_nil ?_ | refine aq_nil ?_ | ((first | apply ao_val | apply aq_val); exact wants_a; (first | exact ov_sslice_lo rfl rfl rfl hn | exact ov_sslice_hi rfl rfl rfl hn | exact ov_a); (exact rfl)) | refine zok ?_ | refine zqk ?_ | refine zon fun _ => ?_ | refine zow ?_ | refine zox ?_ | refine zoz ?_ | refine zoa fun vr lr hr => ?_ | ((first | apply ao_call | apply aq_call); exact wants_a; (first | exact oc_func rfl | exact oc_clos rfl rfl); (exact rfl); (first | exact fun w hw => hnum w | exact fun w hw => hfac w (hG.below hw.below) | exact fun w hw => hnl w)) | (refine aw_is ?_; first | refine aw_seq ?_ | refine aw_block ?_ | refine aw_region ?_ | refine aw_skip ?_ | refine aw_exit ?_ | refine aw_ret ?_ | refine aw_label ?_ | refine aw_scope ?_ | refine zwt ?_ | refine zwf ?_ | refine zwd ?_) | refine zoT ?_ | refine zqT ?_ | refine zwT ?_ | refine zoF ?_ | refine zqF ?_ | refine zwF ?_ | refine zp ?_ | refine ib_exit ?_ | refine ib_other ?_ | refine zr1 ?_ | refine zr2 ?_ | refine zr3 ?_ | refine zrt ?_ | refine zrc ?_ | refine zrd ?_ | refine zoS (fun _ => ?_) (fun _ => ?_) | refine zqS (fun _ => ?_) (fun _ => ?_) | refine zwS (fun _ => ?_) (fun _ => ?_))
      all_goals exact fun w' hw => ⟨rfl, hw.below⟩
  | false =>
    by_cases hF0 : F = 0
    · subst hF0
      rw [if_pos (by simp)]
      by_cases hVM : V ≤ 9223372036854775807
      · rw [if_pos hVM, decide_eq_true hVM] at hnum
        repeat' (first | refine ao_nil ?_ | refine aq_nil ?_ | ((first | apply ao_val | apply aq_val); exact wants_a; (first | exact ov_sslice_lo rfl rfl rfl hn | exact ov_sslice_hi rfl rfl rfl hn | exact ov_a); (exact rfl)) | refine zok ?_ | refine zqk ?_ | refine zon fun _ => ?_ | refine zow ?_ | refine zox ?_ | refine zoz ?_ | refine zoa fun vr lr hr => ?_ | ((first | apply ao_call | apply aq_call); exact wants_a; (first | exact oc_func rfl | exact oc_clos rfl rfl); (exact rfl); (first | exact fun w hw => hnum w | exact fun w hw => hfac w (hG.below hw.below) | exact fun w hw => hnl w)) | (refine aw_is ?_; first | refine aw_seq ?_ | refine aw_block ?_ | refine aw_region ?_ | refine aw_skip ?_ | refine aw_exit ?_ | refine aw_ret ?_ | refine aw_label ?_ | refine aw_scope ?_ | refine zwt ?_ | refine zwf ?_ | refine zwd ?_) | refine zoT ?_ | refine zqT ?_ | refine zwT ?_ | refine zoF ?_ | refine zqF ?_ | refine zwF ?_ | refine zp ?_ | refine ib_exit ?_ | refine ib_other ?_ | refine zr1 ?_ | refine zr2 ?_ | refine zr3 ?_ | refine zrt ?_ | refine zrc ?_ | refine zrd ?_ | refine zoS (fun _ => ?_) (fun _ => ?_) | refine zqS (fun _ => ?_) (fun _ => ?_) | refine zwS (fun _ => ?_) (fun _ => ?_))
        all_goals exact fun w' hw => ⟨rfl, hw.below⟩
      · rw [if_neg hVM, decide_eq_false hVM] at hnum
        repeat' (first | refine ao_nil ?_ | refine aq_nil ?_ | ((first | apply ao_val | apply aq_val); exact wants_a; (first | exact ov_sslice_lo rfl rfl rfl hn | exact ov_sslice_hi rfl rfl rfl hn | exact ov_a); (exact rfl)) | refine zok ?_ | refine zqk ?_ | refine zon fun _ => ?_ | refine zow ?_ | refine zox ?_ | refine zoz ?_ | refine zoa fun vr lr hr => ?_ | ((first | apply ao_call | apply aq_call); exact wants_a; (first | exact oc_func rfl | exact oc_clos rfl rfl); (exact rfl); (first | exact fun w hw => hnum w | exact fun w hw => hfac w (hG.below hw.below) | exact fun w hw => hnl w)) | (refine aw_is ?_; first | refine aw_seq ?_ | refine aw_block ?_ | refine aw_region ?_ | refine aw_skip ?_ | refine aw_exit ?_ | refine aw_ret ?_ | refine aw_label ?_ | refine aw_scope ?_ | refine zwt ?_ | refine zwf ?_ | refine zwd ?_) | refine zoT ?_ | refine zqT ?_ | refine zwT ?_ | refine zoF ?_ | refine zqF ?_ | refine zwF ?_ | refine zp ?_ | refine ib_exit ?_ | refine ib_other ?_ | refine zr1 ?_ | refine zr2 ?_ | refine zr3 ?_ | refine zrt ?_ | refine zrc ?_ | refine zrd ?_ | refine zoS (fun _ => ?_) (fun _ => ?_) | refine zqS (fun _ => ?_) (fun _ => ?_) | refine zwS (fun _ => ?_) (fun _ => ?_))
        all_goals exact fun w' hw => ⟨rfl, hw.below⟩
    · have hF1 : 1 ≤ F ∧ F ≤ 1099511627776 := by omega
      have hF0' : (F == 0) = false := beq_eq_false_iff_ne.2 hF0
      rw [if_neg (by simp [h0, hF0])]
      have hmul := mul_le_iff (v := V) hF1.1
      have hVF : 0 ≤ V * F := Int.mul_nonneg hV0 (by omega)
      have hM0 : 0 ≤ 9223372036854775807 / F ∧ 9223372036854775807 / F ≤ 9223372036854775807 := ⟨Int.ediv_nonneg (by decide) (by omega), Int.ediv_le_self _ (by decide)⟩
      by_cases hVM : V ≤ 9223372036854775807
      · rw [if_pos hVM, decide_eq_true hVM] at hnum
        by_cases hle : V * F ≤ 9223372036854775807
        · rw [if_pos hle]
          have hle' := hmul.1 hle
          have hle'' : decide (V > 9223372036854775807 / F) = false := decide_eq_false (by omega)
          repeat' (first | refine ao_nil ?_ | refine aq_nil ?_ | ((first | apply ao_val | apply aq_val); exact wants_a; (first | exact ov_sslice_lo rfl rfl rfl hn | exact ov_sslice_hi rfl rfl rfl hn | exact ov_a); (exact rfl)) | refine zok ?_ | refine zqk ?_ | refine zon fun _ => ?_ | refine zow ?_ | refine zox ?_ | refine zoz ?_ | refine zoa fun vr lr hr => ?_ | ((first | apply ao_call | apply aq_call); exact wants_a; (first | exact oc_func rfl | exact oc_clos rfl rfl); (exact rfl); (first | exact fun w hw => hnum w | exact fun w hw => hfac w (hG.below hw.below) | exact fun w hw => hnl w)) | (refine aw_is ?_; first | refine aw_seq ?_ | refine aw_block ?_ | refine aw_region ?_ | refine aw_skip ?_ | refine aw_exit ?_ | refine aw_ret ?_ | refine aw_label ?_ | refine aw_scope ?_ | refine zwt ?_ | refine zwf ?_ | refine zwd ?_) | refine zoT ?_ | refine zqT ?_ | refine zwT ?_ | refine zoF ?_ | refine zqF ?_ | refine zwF ?_ | refine zp ?_ | refine ib_exit ?_ | refine ib_other ?_ | refine zr1 ?_ | refine zr2 ?_ | refine zr3 ?_ | refine zrt ?_ | refine zrc ?_ | refine zrd ?_ | refine zoS (fun _ => ?_) (fun _ => ?_) | refine zqS (fun _ => ?_) (fun _ => ?_) | refine zwS (fun _ => ?_) (fun _ => ?_))
          all_goals exact fun w' hw => ⟨rfl, hw.below⟩
        · rw [if_neg hle]
          have hle' : ¬ V ≤ 9223372036854775807 / F := fun h => hle (hmul.2 h)
          repeat' (first | refine ao_nil ?_ | refine aq_nil ?_ | ((first | apply ao_val | apply aq_val); exact wants_a; (first | exact ov_sslice_lo rfl rfl rfl hn | exact ov_sslice_hi rfl rfl rfl hn | exact ov_a); (exact rfl)) | refine zok ?_ | refine zqk ?_ | refine zon fun _ => ?_ | refine zow ?_ | refine zox ?_ | refine zoz ?_ | refine zoa fun vr lr hr => ?_ | ((first | apply ao_call | apply aq_call); exact wants_a; (first | exact oc_func rfl | exact oc_clos rfl rfl); (exact rfl); (first | exact fun w hw => hnum w | exact fun w hw => hfac w (hG.below hw.below) | exact fun w hw => hnl w)) | (refine aw_is ?_; first | refine aw_seq ?_ | refine aw_block ?_ | refine aw_region ?_ | refine aw_skip ?_ | refine aw_exit ?_ | refine aw_ret ?_ | refine aw_label ?_ | refine aw_scope ?_ | refine zwt ?_ | refine zwf ?_ | refine zwd ?_) | refine zoT ?_ | refine zqT ?_ | refine zwT ?_ | refine zoF ?_ | refine zqF ?_ | refine zwF ?_ | refine zp ?_ | refine ib_exit ?_ | refine ib_other ?_ | refine zr1 ?_ | refine zr2 ?_ | refine zr3 ?_ | refine zrt ?_ | refine zrc ?_ | refine zrd ?_ | refine zoS (fun _ => ?_) (fun _ => ?_) | refine zqS (fun _ => ?_) (fun _ => ?_) | refine zwS (fun _ => ?_) (fun _ => ?_))
          all_goals exact fun w' hw => ⟨rfl, hw.below⟩
      · rw [if_neg hVM, decide_eq_false hVM] at hnum
        have hle : ¬ V * F ≤ 9223372036854775807 := fun h => hVM (Int.le_trans (by have := Int.mul_le_mul_of_nonneg_left hF1.1 hV0; omega) h)
        rw [if_neg hle]
        repeat' (first | refine ao_nil ?_ | refine aq_nil ?_ | ((first | apply ao_val | apply aq_val); exact wants_a; (first | exact ov_sslice_lo rfl rfl rfl hn | exact ov_sslice_hi rfl rfl rfl hn | exact ov_a); (exact rfl)) | refine zok ?_ | refine zqk ?_ | refine zon fun _ => ?_ | refine zow ?_ | refine zox ?_ | refine zoz ?_ | refine zoa fun vr lr hr => ?_ | ((first | apply ao_call | apply aq_call); exact wants_a; (first | exact oc_func rfl | exact oc_clos rfl rfl); (exact rfl); (first | exact fun w hw => hnum w | exact fun w hw => hfac w (hG.below hw.below) | exact fun w hw => hnl w)) | (refine aw_is ?_; first | refine aw_seq ?_ | refine aw_block ?_ | refine aw_region ?_ | refine aw_skip ?_ | refine aw_exit ?_ | refine aw_ret ?_ | refine aw_label ?_ | refine aw_scope ?_ | refine zwt ?_ | refine zwf ?_ | refine zwd ?_) | refine zoT ?_ | refine zqT ?_ | refine zwT ?_ | refine zoF ?_ | refine zqF ?_ | refine zwF ?_ | refine zp ?_ | refine ib_exit ?_ | refine ib_other ?_ | refine zr1 ?_ | refine zr2 ?_ | refine zr3 ?_ | refine zrt ?_ | refine zrc ?_ | refine zrd ?_ | refine zoS (fun _ => ?_) (fun _ => ?_) | refine zqS (fun _ => ?_) (fun _ => ?_) | refine zwS (fun _ => ?_) (fun _ => ?_))
        all_goals exact fun w' hw => ⟨rfl, hw.below⟩
end Qty
end Go.Proofs.YteclgkemggmabaaDoor
