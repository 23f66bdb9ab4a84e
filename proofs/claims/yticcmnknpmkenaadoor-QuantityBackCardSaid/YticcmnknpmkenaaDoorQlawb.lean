/- The walk of QuantityBack; conditions: the tables as they were laid. -/
import Derived.Test.YticcmnknpmkenaaDoorQlaw
namespace Go.Proofs.YticcmnknpmkenaaDoor
namespace Qty
open Go Go.RowKit Sx Wid
attribute [local irreducible] Go.Calls

theorem figN_take (l : List UInt8) : ∀ c ∈ l.take (figN l), isFig c = true := fun c h => by
  obtain ⟨i, hi, he⟩ := List.mem_iff_getElem.1 h
  simp only [List.length_take] at hi
  obtain ⟨d, hd, hf⟩ := figN_lt l i (by omega)
  rw [List.getElem_take] at he
  have : l[i]? = some c := by rw [List.getElem?_eq_getElem (by omega), he]
  rw [hd] at this
  cases this
  exact hf
theorem figN_drop (l : List UInt8) : figN (l.drop (figN l)) = 0 := by
  have hn := figN_le l
  cases h : l.drop (figN l) with
  | nil => rfl
  | cons c r =>
    have hc : l[figN l]? = some c := by
      have := congrArg (·[0]?) h
      simpa using this
    have := figN_stop l c hc
    simp [figN, this]
/-- A text with a nought behind its figures. -/
def moreT (l : List UInt8) : List UInt8 := l.take (figN l) ++ [48] ++ l.drop (figN l)
theorem moreT_figs (l : List UInt8) : figN (moreT l) = figN l + 1 := by
  have hn := figN_le l
  unfold moreT
  rw [List.append_assoc, figN_app _ _ (figN_take l)]
  have h0 : figN ([48] ++ l.drop (figN l)) = 1 := by
    have := figN_drop l
    simp [figN, isFig, this]
  rw [h0]
  simp
  omega
theorem moreT_drop (l : List UInt8) : (moreT l).drop (figN l + 1) = l.drop (figN l) := by
  have hn := figN_le l
  unfold moreT
  have hl : (l.take (figN l) ++ [48]).length = figN l + 1 := by simp; omega
  have := List.drop_left (l₁ := l.take (figN l) ++ [48]) (l₂ := l.drop (figN l))
  rwa [hl] at this
theorem moreT_val (l : List UInt8) : valP (moreT l) (figN l + 1) = 10 * valP l (figN l) := by
  have hn := figN_le l
  have hl : (l.take (figN l)).length = figN l := by simp; omega
  have hg : (moreT l)[figN l]? = some 48 := by
    unfold moreT
    rw [List.append_assoc, List.getElem?_append_right (by omega), hl]
    simp
  have e1 : valP (moreT l) (figN l) = valP (l.take (figN l)) (figN l) := by
    unfold moreT
    rw [List.append_assoc]
    exact valP_app _ _ _ (by omega)
  have e2 : valP l (figN l) = valP (l.take (figN l)) (figN l) := by
    have := valP_app (l.take (figN l)) (l.drop (figN l)) (figN l) (by omega)
    rwa [List.take_append_drop] at this
  rw [valP_succ hg, e1, e2]
  have : ((48 : UInt8).toNat : Int) = 48 := rfl
  omega
theorem moreT_head {l : List UInt8} (h : 1 ≤ figN l) : (moreT l)[0]? = l[0]? := by
  have hn := figN_le l
  have hl : (l.take (figN l)).length = figN l := by simp; omega
  unfold moreT
  rw [List.append_assoc, List.getElem?_append_left (by omega), List.getElem?_take_of_lt (by omega)]
theorem more_form {l : List UInt8} {b : Int} (hb : badQ l = false) (hle : valP l (figN l) * facI (l.drop (figN l)) ≤ 9223372036854775807) (he : b = valP l (figN l) * facI (l.drop (figN l))) :
    ∃ c g, parseQ (moreT l) = .tuple #[I c, I g] ∧ (922337203685477580 < b → g = 3) ∧ (b = 0 ∨ (b ≤ 922337203685477580 → g = 0 ∧ c = 10 * b)) := by
  have h1 : 1 ≤ figN l := by
    simp only [badQ, Bool.or_eq_false_iff, beq_eq_false_iff_ne] at hb
    omega
  have hF0 : facI (l.drop (figN l)) ≠ 0 := by
    simp only [badQ, Bool.or_eq_false_iff, beq_eq_false_iff_ne] at hb
    exact hb.2
  have hp : parseQ (moreT l) = if badQ (moreT l) then .tuple #[I 0, I 2] else if 10 * valP l (figN l) * facI (l.drop (figN l)) ≤ 9223372036854775807 then .tuple #[I (10 * valP l (figN l) * facI (l.drop (figN l))), I 0] else .tuple #[I 0, I 3] := by
    unfold parseQ
    rw [moreT_figs, moreT_drop, moreT_val]
  have hm : 10 * valP l (figN l) * facI (l.drop (figN l)) = 10 * b := by rw [he, Int.mul_assoc]
  rw [hm] at hp
  by_cases h48 : l[0]? = some 48
  · have hk : figN l = 1 := by
      simp only [badQ, Bool.or_eq_false_iff, Bool.and_eq_false_iff, decide_eq_false_iff_not] at hb
      rcases hb.1.2 with h | h
      · omega
      · rw [h48] at h; exact absurd h (by decide)
    have hv : valP l (figN l) = 0 := by
      rw [hk, valP_succ h48]
      rfl
    have hb0 : b = 0 := by rw [he, hv, Int.zero_mul]
    cases hbm : badQ (moreT l)
    · rw [hbm] at hp
      rw [if_neg (by decide), if_pos (by omega)] at hp
      exact ⟨_, _, hp, fun h => by omega, .inl hb0⟩
    · rw [hbm] at hp
      rw [if_pos rfl] at hp
      exact ⟨_, _, hp, fun h => by omega, .inl hb0⟩
  · have hbm : badQ (moreT l) = false := by
      unfold badQ
      rw [moreT_figs, moreT_drop, moreT_head h1]
      simp [h48, hF0]
    rw [hbm] at hp
    rw [if_neg (by decide)] at hp
    by_cases hc : 10 * b ≤ 9223372036854775807
    · rw [if_pos hc] at hp
      exact ⟨_, _, hp, fun h => by omega, .inr fun _ => ⟨rfl, rfl⟩⟩
    · rw [if_neg hc] at hp
      exact ⟨_, _, hp, fun _ => rfl, .inr fun h => by omega⟩
theorem own_len (n : Int) : ∀ (l : List (List UInt8)), (∀ s ∈ l, s.length ≤ 2) → (ownFrom n l).length ≤ 22
  | [], _ => by have := figT_len n; show (figT n).length ≤ 22; omega
  | s :: l, h => by
    have hs := h s List.mem_cons_self
    have hf := figT_len (n / facI s)
    rw [show ownFrom n (s :: l) = if n % facI s = 0 then figT (n / facI s) ++ s else ownFrom n l from rfl]
    split
    · simp; omega
    · exact own_len n l (fun d hd => h d (List.mem_cons_of_mem _ hd))
theorem ownT_len (n : Int) : (ownT n).length ≤ 22 := by
  unfold ownT
  split
  · simp
  split
  · simp
  · exact own_len n sufs (by decide)
theorem ownT_ne {n : Int} (h0 : 0 ≤ n) (h1 : n ≤ 9223372036854775807) : ownT n ≠ [] := fun h => by
  have := parse_own h0 h1
  rw [h] at this
  have e : parseQ [] = .tuple #[I 0, I 2] := by kernel_rfl
  rw [e] at this
  injection this with this
  have := congrArg (·[1]?) this
  simp at this

set_option maxHeartbeats 8000000 in
theorem back_ok (l : List UInt8) (n : Int) (h0 : -9223372036854775808 ≤ n) (h1 : n ≤ 9223372036854775807) (w : World) (hG : Gl w) : Calls Tryd.prog 4 #[S l, I n] w fun e w' => e = .returned (.bool true) ∧ Below w.heap.size w w' := by
  refine calls1 (args := [S l, I n]) Tryd.func4 rfl rfl rfl rfl ?_
  by_cases hl : 200 < l.length
  · repeat' (first | (apply ao_nilh; exact hsub_a) | apply ao_nil | apply aq_nil | apply ah_end | ((first | apply ao_val | apply aq_val | (apply ah_take; (exact rfl))); exact wants_a; exact ov_a; (exact rfl)) | ((first | apply ao_skip | apply aq_skip | (apply ah_skip; (exact rfl))); exact nots_a; (exact rfl)) | (refine ao_is ?_; first | (apply ao_new; exact wants_a; exact on_a; (exact rfl); intro _) | (apply ao_store; exact wants_a; exact ow_a; exact upd_a) | (apply ao_valw; exact wants_a; exact ox_a; (exact rfl); exact upd_a) | (apply ao_skip0; exact nots_a) | (apply ao_append; exact wants_a; (exact rfl); assumption; (exact rfl); exact cut_a; exact has_a; (exact rfl); (exact rfl); omega; omega; omega; (exact rfl); intro vr lr hr)) | ((first | apply ao_call | apply aq_call); exact wants_a; (exact oc_func rfl); (exact rfl); (first | exact fun w hw => alive_ok w (hG.below hw.below))) | (apply ah_one; (exact rfl)) | (apply ah_two; (exact rfl); (exact rfl)) | (refine aw_is ?_; first | refine aw_seq ?_ | refine aw_block ?_ | refine aw_region ?_ | refine aw_skip ?_ | refine aw_exit ?_ | refine aw_ret ?_ | refine aw_label ?_ | refine aw_scope ?_ | refine aw_cond_t rfl (by with_reducible rfl) ?_ | refine aw_cond_f rfl (by with_reducible rfl) ?_ | refine aw_draw (by kernel_rfl) (by kernel_rfl) ?_) | ((first | (apply ao_gt; (exact rfl)) | (apply aq_gt; (exact rfl)) | apply aw_ct); (exact rfl); exact t_a) | ((first | (apply ao_gf; (exact rfl)) | (apply aq_gf; (exact rfl)) | apply aw_cf); (exact rfl); exact f_a) | refine at_normal ?_ | refine at_exit ?_ | refine at_ret ?_ | refine ib_normal ?_ | refine ib_exit ?_ | refine ib_other ?_ | refine ib_ret ?_ | refine lq_exit ?_ | refine lq_ret ?_ | refine ci_ret ?_ | refine ci_exit ?_ | refine r1_ret rfl ?_ | refine r1_normal rfl ?_ | refine r2_ret rfl rfl ?_ | refine r2_normal rfl rfl ?_ | refine r3_ret rfl rfl rfl ?_ | refine r3_normal rfl rfl rfl ?_ | refine ng_normal ?_ | refine ng_exit ?_ | refine ng_ret ?_ | (apply rc1_ret; (exact rfl); exact has_a; (exact rfl)) | (apply rc2_ret; (exact rfl); exact has_a; (exact rfl); (exact rfl)) | (refine ao_is ?_; (fail_if_success first | refine ao_glit (b := true) rfl rfl (by with_reducible rfl) ?_ | refine ao_glit (b := false) rfl rfl (by with_reducible rfl) ?_); refine ao_gbool rfl rfl (fun _ => ?_) (fun _ => ?_)) | (refine aq_is ?_; (fail_if_success first | refine aq_glit (b := true) rfl rfl (by with_reducible rfl) ?_ | refine aq_glit (b := false) rfl rfl (by with_reducible rfl) ?_); refine aq_gbool rfl rfl (fun _ => ?_) (fun _ => ?_)) | (refine aw_is ?_; refine aw_cond rfl (fun _ => ?_) (fun _ => ?_)))
    exact fun w' hw => ⟨rfl, hw.below⟩
  have hn := figN_le l
  obtain ⟨T, hT⟩ : ∃ T, ownT n = T := ⟨_, rfl⟩
  have hTl : T.length ≤ 100000 := by have := ownT_len n; rw [hT] at this; omega
  have htx := fun w hG => text_at h0 h1 hT w hG
  obtain ⟨a, e, hpT, hae⟩ : ∃ a e, parseQ T = .tuple #[I a, I e] ∧ (0 ≤ n → a = n ∧ e = 0) := by
    by_cases hn : 0 ≤ n
    · exact ⟨n, 0, by rw [← hT]; exact parse_own hn h1, fun _ => ⟨rfl, rfl⟩⟩
    · obtain ⟨a, e, h⟩ := parse_two T
      exact ⟨a, e, h, fun h => absurd h hn⟩
  have hTn : (!((!(T == [])) == decide (0 ≤ n))) = false := by
    by_cases hn : 0 ≤ n
    · have := ownT_ne hn h1
      rw [hT] at this
      simp [this, hn]
    · have : T = [] := by rw [← hT]; unfold ownT; rw [if_pos (by omega)]
      simp [this, hn]
  have hpt := fun w hG => parse_at hTl hpT w hG
  obtain ⟨b, f, hps, hbf⟩ : ∃ b f, parseQ l = .tuple #[I b, I f] ∧ ((f ≠ 0 ∧ b = 0) ∨ (f = 0 ∧ badQ l = false ∧ b ≤ 9223372036854775807 ∧ b = valP l (figN l) * facI (l.drop (figN l)))) := by
    rcases parse_form l with h | h | ⟨h1, h2, h⟩
    · exact ⟨_, _, h, .inl ⟨by decide, rfl⟩⟩
    · exact ⟨_, _, h, .inl ⟨by decide, rfl⟩⟩
    · exact ⟨_, _, h, .inr ⟨rfl, h1, h2, rfl⟩⟩
  have hpl := fun w hG => parse_at (by omega) hps w hG
  have hfirst : (0 ≤ n → (a != n) = false ∧ (e != 0) = false) := fun hn => by
    obtain ⟨rfl, rfl⟩ := hae hn
    exact ⟨bne_self_eq_false _, rfl⟩
  rcases hbf with ⟨hf, rfl⟩ | ⟨rfl, hbad, hbm, hbe⟩
  · have hf' : (f != 0) = true := bne_iff_ne.2 hf
    by_cases hn : 0 ≤ n
    · obtain ⟨g1, g2⟩ := hfirst hn
      repeat' (first | (apply ao_nilh; exact hsub_a) | apply ao_nil | apply aq_nil | apply ah_end | ((first | apply ao_val | apply aq_val | (apply ah_take; (exact rfl))); exact wants_a; exact ov_a; (exact rfl)) | ((first | apply ao_skip | apply aq_skip | (apply ah_skip; (exact rfl))); exact nots_a; (exact rfl)) | (refine ao_is ?_; first | (apply ao_new; exact wants_a; exact on_a; (exact rfl); intro _) | (apply ao_store; exact wants_a; exact ow_a; exact upd_a) | (apply ao_valw; exact wants_a; exact ox_a; (exact rfl); exact upd_a) | (apply ao_skip0; exact nots_a) | (apply ao_append; exact wants_a; (exact rfl); assumption; (exact rfl); exact cut_a; exact has_a; (exact rfl); (exact rfl); omega; omega; omega; (exact rfl); intro vr lr hr)) | ((first | apply ao_call | apply aq_call); exact wants_a; (exact oc_func rfl); (exact rfl); (first | exact fun w hw => htx w (hG.below hw.below) | exact fun w hw => hpt w (hG.below hw.below) | exact fun w hw => hpl w (hG.below hw.below) | exact fun w hw => alive_ok w (hG.below hw.below))) | (apply ah_one; (exact rfl)) | (apply ah_two; (exact rfl); (exact rfl)) | (refine aw_is ?_; first | refine aw_seq ?_ | refine aw_block ?_ | refine aw_region ?_ | refine aw_skip ?_ | refine aw_exit ?_ | refine aw_ret ?_ | refine aw_label ?_ | refine aw_scope ?_ | refine aw_cond_t rfl (by with_reducible rfl) ?_ | refine aw_cond_f rfl (by with_reducible rfl) ?_ | refine aw_draw (by kernel_rfl) (by kernel_rfl) ?_) | ((first | (apply ao_gt; (exact rfl)) | (apply aq_gt; (exact rfl)) | apply aw_ct); (exact rfl); exact t_a) | ((first | (apply ao_gf; (exact rfl)) | (apply aq_gf; (exact rfl)) | apply aw_cf); (exact rfl); exact f_a) | refine at_normal ?_ | refine at_exit ?_ | refine at_ret ?_ | refine ib_normal ?_ | refine ib_exit ?_ | refine ib_other ?_ | refine ib_ret ?_ | refine lq_exit ?_ | refine lq_ret ?_ | refine ci_ret ?_ | refine ci_exit ?_ | refine r1_ret rfl ?_ | refine r1_normal rfl ?_ | refine r2_ret rfl rfl ?_ | refine r2_normal rfl rfl ?_ | refine r3_ret rfl rfl rfl ?_ | refine r3_normal rfl rfl rfl ?_ | refine ng_normal ?_ | refine ng_exit ?_ | refine ng_ret ?_ | (apply rc1_ret; (exact rfl); exact has_a; (exact rfl)) | (apply rc2_ret; (exact rfl); exact has_a; (exact rfl); (exact rfl)) | (refine ao_is ?_; (fail_if_success first | refine ao_glit (b := true) rfl rfl (by with_reducible rfl) ?_ | refine ao_glit (b := false) rfl rfl (by with_reducible rfl) ?_); refine ao_gbool rfl rfl (fun _ => ?_) (fun _ => ?_)) | (refine aq_is ?_; (fail_if_success first | refine aq_glit (b := true) rfl rfl (by with_reducible rfl) ?_ | refine aq_glit (b := false) rfl rfl (by with_reducible rfl) ?_); refine aq_gbool rfl rfl (fun _ => ?_) (fun _ => ?_)) | (refine aw_is ?_; refine aw_cond rfl (fun _ => ?_) (fun _ => ?_)))
      exact fun w' hw => ⟨rfl, hw.below⟩
    · repeat' (first | (apply ao_nilh; exact hsub_a) | apply ao_nil | apply aq_nil | apply ah_end | ((first | apply ao_val | apply aq_val | (apply ah_take; (exact rfl))); exact wants_a; exact ov_a; (exact rfl)) | ((first | apply ao_skip | apply aq_skip | (apply ah_skip; (exact rfl))); exact nots_a; (exact rfl)) | (refine ao_is ?_; first | (apply ao_new; exact wants_a; exact on_a; (exact rfl); intro _) | (apply ao_store; exact wants_a; exact ow_a; exact upd_a) | (apply ao_valw; exact wants_a; exact ox_a; (exact rfl); exact upd_a) | (apply ao_skip0; exact nots_a) | (apply ao_append; exact wants_a; (exact rfl); assumption; (exact rfl); exact cut_a; exact has_a; (exact rfl); (exact rfl); omega; omega; omega; (exact rfl); intro vr lr hr)) | ((first | apply ao_call | apply aq_call); exact wants_a; (exact oc_func rfl); (exact rfl); (first | exact fun w hw => htx w (hG.below hw.below) | exact fun w hw => hpt w (hG.below hw.below) | exact fun w hw => hpl w (hG.below hw.below) | exact fun w hw => alive_ok w (hG.below hw.below))) | (apply ah_one; (exact rfl)) | (apply ah_two; (exact rfl); (exact rfl)) | (refine aw_is ?_; first | refine aw_seq ?_ | refine aw_block ?_ | refine aw_region ?_ | refine aw_skip ?_ | refine aw_exit ?_ | refine aw_ret ?_ | refine aw_label ?_ | refine aw_scope ?_ | refine aw_cond_t rfl (by with_reducible rfl) ?_ | refine aw_cond_f rfl (by with_reducible rfl) ?_ | refine aw_draw (by kernel_rfl) (by kernel_rfl) ?_) | ((first | (apply ao_gt; (exact rfl)) | (apply aq_gt; (exact rfl)) | apply aw_ct); (exact rfl); exact t_a) | ((first | (apply ao_gf; (exact rfl)) | (apply aq_gf; (exact rfl)) | apply aw_cf); (exact rfl); exact f_a) | refine at_normal ?_ | refine at_exit ?_ | refine at_ret ?_ | refine ib_normal ?_ | refine ib_exit ?_ | refine ib_other ?_ | refine ib_ret ?_ | refine lq_exit ?_ | refine lq_ret ?_ | refine ci_ret ?_ | refine ci_exit ?_ | refine r1_ret rfl ?_ | refine r1_normal rfl ?_ | refine r2_ret rfl rfl ?_ | refine r2_normal rfl rfl ?_ | refine r3_ret rfl rfl rfl ?_ | refine r3_normal rfl rfl rfl ?_ | refine ng_normal ?_ | refine ng_exit ?_ | refine ng_ret ?_ | (apply rc1_ret; (exact rfl); exact has_a; (exact rfl)) | (apply rc2_ret; (exact rfl); exact has_a; (exact rfl); (exact rfl)) | (refine ao_is ?_; (fail_if_success first | refine ao_glit (b := true) rfl rfl (by with_reducible rfl) ?_ | refine ao_glit (b := false) rfl rfl (by with_reducible rfl) ?_); refine ao_gbool rfl rfl (fun _ => ?_) (fun _ => ?_)) | (refine aq_is ?_; (fail_if_success first | refine aq_glit (b := true) rfl rfl (by with_reducible rfl) ?_ | refine aq_glit (b := false) rfl rfl (by with_reducible rfl) ?_); refine aq_gbool rfl rfl (fun _ => ?_) (fun _ => ?_)) | (refine aw_is ?_; refine aw_cond rfl (fun _ => ?_) (fun _ => ?_)))
      exact fun w' hw => ⟨rfl, hw.below⟩
  · have hF := facI_rng (l.drop (figN l))
    have hV := valP_nonneg l (figN l) (Nat.le_refl _)
    have hb0 : 0 ≤ b := by rw [hbe]; exact Int.mul_nonneg hV (by omega)
    have hk1 : 1 ≤ figN l := by
      simp only [badQ, Bool.or_eq_false_iff, beq_eq_false_iff_ne] at hbad
      omega
    have hF0 : facI (l.drop (figN l)) ≠ 0 := by
      simp only [badQ, Bool.or_eq_false_iff, beq_eq_false_iff_ne] at hbad
      exact hbad.2
    have hsh : figN (ownT b) ≤ figN l := by
      rw [hbe]
      exact own_short hV hk1 (valP_lt l _ (Nat.le_refl _)) hF0 (by omega)
    have hOne := ownT_ne hb0 hbm
    have hOl := ownT_len b
    obtain ⟨O, hO⟩ : ∃ O, ownT b = O := ⟨_, rfl⟩
    rw [hO] at hsh hOne hOl
    have hbt := fun w hG => text_at (by omega) hbm hO w hG
    have hO' : (O == []) = false := beq_eq_false_iff_ne.2 hOne
    have hfo := fun w => figures_ok O (by omega) w
    have hfl := fun w => figures_ok l (by omega) w
    obtain ⟨c, g, hpm, hm1, hm2⟩ := more_form hbad (by omega) hbe
    have hml : (moreT l).length = l.length + 1 := by unfold moreT; simp; omega
    have hpm' := fun w hG => parse_at (by omega) hpm w hG
    have hme : moreT l = l.take (figN l) ++ [48] ++ l.drop (figN l) := rfl
    rw [hme] at hpm'
    have htl : (l.take (figN l)).length = figN l := by simp; omega
    have hdl : (l.drop (figN l)).length = l.length - figN l := by simp
    have hfin : (b ≤ 922337203685477580 → (b == 0) = false → (g == 0) = true ∧ (c == 10 * b) = true) := fun h1 h2 => by
      rcases hm2 with h | h
      · rw [h] at h2; cases h2
      · obtain ⟨rfl, rfl⟩ := h h1
        exact ⟨rfl, beq_self_eq_true _⟩
    by_cases hbig : 922337203685477580 < b
    · obtain rfl := hm1 hbig
      by_cases hn : 0 ≤ n
      · obtain ⟨g1, g2⟩ := hfirst hn
        repeat' (first | (apply ao_nilh; exact hsub_a) | apply ao_nil | apply aq_nil | apply ah_end | ((first | apply ao_val | apply aq_val | (apply ah_take; (exact rfl))); exact wants_a; (first | exact ov_sslice_lo rfl rfl rfl (by assumption) | exact ov_sslice_hi rfl rfl rfl (by assumption) | exact ov_a); (exact rfl)) | ((first | apply ao_skip | apply aq_skip | (apply ah_skip; (exact rfl))); exact nots_a; (exact rfl)) | (refine ao_is ?_; first | (apply ao_new; exact wants_a; exact on_a; (exact rfl); intro _) | (apply ao_store; exact wants_a; exact ow_a; exact upd_a) | (apply ao_valw; exact wants_a; exact ox_a; (exact rfl); exact upd_a) | (apply ao_skip0; exact nots_a) | (apply ao_append; exact wants_a; (exact rfl); assumption; (exact rfl); exact cut_a; exact has_a; (exact rfl); (exact rfl); omega; omega; omega; (exact rfl); intro vr lr hr)) | ((first | apply ao_call | apply aq_call); exact wants_a; (exact oc_func rfl); (exact rfl); (first | exact fun w hw => htx w (hG.below hw.below) | exact fun w hw => hpt w (hG.below hw.below) | exact fun w hw => hpl w (hG.below hw.below) | exact fun w hw => alive_ok w (hG.below hw.below) | exact fun w hw => hbt w (hG.below hw.below) | exact fun w hw => hfo w | exact fun w hw => hfl w | exact fun w hw => hpm' w (hG.below hw.below))) | (apply ah_one; (exact rfl)) | (apply ah_two; (exact rfl); (exact rfl)) | (refine aw_is ?_; first | refine aw_seq ?_ | refine aw_block ?_ | refine aw_region ?_ | refine aw_skip ?_ | refine aw_exit ?_ | refine aw_ret ?_ | refine aw_label ?_ | refine aw_scope ?_ | refine aw_cond_t rfl (by with_reducible rfl) ?_ | refine aw_cond_f rfl (by with_reducible rfl) ?_ | refine aw_draw (by kernel_rfl) (by kernel_rfl) ?_) | ((first | (apply ao_gt; (exact rfl)) | (apply aq_gt; (exact rfl)) | apply aw_ct); (exact rfl); exact t_a) | ((first | (apply ao_gf; (exact rfl)) | (apply aq_gf; (exact rfl)) | apply aw_cf); (exact rfl); exact f_a) | refine at_normal ?_ | refine at_exit ?_ | refine at_ret ?_ | refine ib_normal ?_ | refine ib_exit ?_ | refine ib_other ?_ | refine ib_ret ?_ | refine lq_exit ?_ | refine lq_ret ?_ | refine ci_ret ?_ | refine ci_exit ?_ | refine r1_ret rfl ?_ | refine r1_normal rfl ?_ | refine r2_ret rfl rfl ?_ | refine r2_normal rfl rfl ?_ | refine r3_ret rfl rfl rfl ?_ | refine r3_normal rfl rfl rfl ?_ | refine ng_normal ?_ | refine ng_exit ?_ | refine ng_ret ?_ | (apply rc1_ret; (exact rfl); exact has_a; (exact rfl)) | (apply rc2_ret; (exact rfl); exact has_a; (exact rfl); (exact rfl)) | (refine ao_is ?_; (fail_if_success first | refine ao_glit (b := true) rfl rfl (by with_reducible rfl) ?_ | refine ao_glit (b := false) rfl rfl (by with_reducible rfl) ?_); refine ao_gbool rfl rfl (fun _ => ?_) (fun _ => ?_)) | (refine aq_is ?_; (fail_if_success first | refine aq_glit (b := true) rfl rfl (by with_reducible rfl) ?_ | refine aq_glit (b := false) rfl rfl (by with_reducible rfl) ?_); refine aq_gbool rfl rfl (fun _ => ?_) (fun _ => ?_)) | (refine aw_is ?_; refine aw_cond rfl (fun _ => ?_) (fun _ => ?_)))
        exact fun w' hw => ⟨rfl, hw.below⟩
      · repeat' (first | (apply ao_nilh; exact hsub_a) | apply ao_nil | apply aq_nil | apply ah_end | ((first | apply ao_val | apply aq_val | (apply ah_take; (exact rfl))); exact wants_a; (first | exact ov_sslice_lo rfl rfl rfl (by assumption) | exact ov_sslice_hi rfl rfl rfl (by assumption) | exact ov_a); (exact rfl)) | ((first | apply ao_skip | apply aq_skip | (apply ah_skip; (exact rfl))); exact nots_a; (exact rfl)) | (refine ao_is ?_; first | (apply ao_new; exact wants_a; exact on_a; (exact rfl); intro _) | (apply ao_store; exact wants_a; exact ow_a; exact upd_a) | (apply ao_valw; exact wants_a; exact ox_a; (exact rfl); exact upd_a) | (apply ao_skip0; exact nots_a) | (apply ao_append; exact wants_a; (exact rfl); assumption; (exact rfl); exact cut_a; exact has_a; (exact rfl); (exact rfl); omega; omega; omega; (exact rfl); intro vr lr hr)) | ((first | apply ao_call | apply aq_call); exact wants_a; (exact oc_func rfl); (exact rfl); (first | exact fun w hw => htx w (hG.below hw.below) | exact fun w hw => hpt w (hG.below hw.below) | exact fun w hw => hpl w (hG.below hw.below) | exact fun w hw => alive_ok w (hG.below hw.below) | exact fun w hw => hbt w (hG.below hw.below) | exact fun w hw => hfo w | exact fun w hw => hfl w | exact fun w hw => hpm' w (hG.below hw.below))) | (apply ah_one; (exact rfl)) | (apply ah_two; (exact rfl); (exact rfl)) | (refine aw_is ?_; first | refine aw_seq ?_ | refine aw_block ?_ | refine aw_region ?_ | refine aw_skip ?_ | refine aw_exit ?_ | refine aw_ret ?_ | refine aw_label ?_ | refine aw_scope ?_ | refine aw_cond_t rfl (by with_reducible rfl) ?_ | refine aw_cond_f rfl (by with_reducible rfl) ?_ | refine aw_draw (by kernel_rfl) (by kernel_rfl) ?_) | ((first | (apply ao_gt; (exact rfl)) | (apply aq_gt; (exact rfl)) | apply aw_ct); (exact rfl); exact t_a) | ((first | (apply ao_gf; (exact rfl)) | (apply aq_gf; (exact rfl)) | apply aw_cf); (exact rfl); exact f_a) | refine at_normal ?_ | refine at_exit ?_ | refine at_ret ?_ | refine ib_normal ?_ | refine ib_exit ?_ | refine ib_other ?_ | refine ib_ret ?_ | refine lq_exit ?_ | refine lq_ret ?_ | refine ci_ret ?_ | refine ci_exit ?_ | refine r1_ret rfl ?_ | refine r1_normal rfl ?_ | refine r2_ret rfl rfl ?_ | refine r2_normal rfl rfl ?_ | refine r3_ret rfl rfl rfl ?_ | refine r3_normal rfl rfl rfl ?_ | refine ng_normal ?_ | refine ng_exit ?_ | refine ng_ret ?_ | (apply rc1_ret; (exact rfl); exact has_a; (exact rfl)) | (apply rc2_ret; (exact rfl); exact has_a; (exact rfl); (exact rfl)) | (refine ao_is ?_; (fail_if_success first | refine ao_glit (b := true) rfl rfl (by with_reducible rfl) ?_ | refine ao_glit (b := false) rfl rfl (by with_reducible rfl) ?_); refine ao_gbool rfl rfl (fun _ => ?_) (fun _ => ?_)) | (refine aq_is ?_; (fail_if_success first | refine aq_glit (b := true) rfl rfl (by with_reducible rfl) ?_ | refine aq_glit (b := false) rfl rfl (by with_reducible rfl) ?_); refine aq_gbool rfl rfl (fun _ => ?_) (fun _ => ?_)) | (refine aw_is ?_; refine aw_cond rfl (fun _ => ?_) (fun _ => ?_)))
        exact fun w' hw => ⟨rfl, hw.below⟩
    · cases hz : (b == 0)
      · obtain ⟨e1, e2⟩ := hfin (by omega) hz
        by_cases hn : 0 ≤ n
        · obtain ⟨g1, g2⟩ := hfirst hn
          repeat' (first | (apply ao_nilh; exact hsub_a) | apply ao_nil | apply aq_nil | apply ah_end | ((first | apply ao_val | apply aq_val | (apply ah_take; (exact rfl))); exact wants_a; (first | exact ov_sslice_lo rfl rfl rfl (by assumption) | exact ov_sslice_hi rfl rfl rfl (by assumption) | exact ov_a); (exact rfl)) | ((first | apply ao_skip | apply aq_skip | (apply ah_skip; (exact rfl))); exact nots_a; (exact rfl)) | (refine ao_is ?_; first | (apply ao_new; exact wants_a; exact on_a; (exact rfl); intro _) | (apply ao_store; exact wants_a; exact ow_a; exact upd_a) | (apply ao_valw; exact wants_a; exact ox_a; (exact rfl); exact upd_a) | (apply ao_skip0; exact nots_a) | (apply ao_append; exact wants_a; (exact rfl); assumption; (exact rfl); exact cut_a; exact has_a; (exact rfl); (exact rfl); omega; omega; omega; (exact rfl); intro vr lr hr)) | ((first | apply ao_call | apply aq_call); exact wants_a; (exact oc_func rfl); (exact rfl); (first | exact fun w hw => htx w (hG.below hw.below) | exact fun w hw => hpt w (hG.below hw.below) | exact fun w hw => hpl w (hG.below hw.below) | exact fun w hw => alive_ok w (hG.below hw.below) | exact fun w hw => hbt w (hG.below hw.below) | exact fun w hw => hfo w | exact fun w hw => hfl w | exact fun w hw => hpm' w (hG.below hw.below))) | (apply ah_one; (exact rfl)) | (apply ah_two; (exact rfl); (exact rfl)) | (refine aw_is ?_; first | refine aw_seq ?_ | refine aw_block ?_ | refine aw_region ?_ | refine aw_skip ?_ | refine aw_exit ?_ | refine aw_ret ?_ | refine aw_label ?_ | refine aw_scope ?_ | refine aw_cond_t rfl (by with_reducible rfl) ?_ | refine aw_cond_f rfl (by with_reducible rfl) ?_ | refine aw_draw (by kernel_rfl) (by kernel_rfl) ?_) | ((first | (apply ao_gt; (exact rfl)) | (apply aq_gt; (exact rfl)) | apply aw_ct); (exact rfl); exact t_a) | ((first | (apply ao_gf; (exact rfl)) | (apply aq_gf; (exact rfl)) | apply aw_cf); (exact rfl); exact f_a) | refine at_normal ?_ | refine at_exit ?_ | refine at_ret ?_ | refine ib_normal ?_ | refine ib_exit ?_ | refine ib_other ?_ | refine ib_ret ?_ | refine lq_exit ?_ | refine lq_ret ?_ | refine ci_ret ?_ | refine ci_exit ?_ | refine r1_ret rfl ?_ | refine r1_normal rfl ?_ | refine r2_ret rfl rfl ?_ | refine r2_normal rfl rfl ?_ | refine r3_ret rfl rfl rfl ?_ | refine r3_normal rfl rfl rfl ?_ | refine ng_normal ?_ | refine ng_exit ?_ | refine ng_ret ?_ | (apply rc1_ret; (exact rfl); exact has_a; (exact rfl)) | (apply rc2_ret; (exact rfl); exact has_a; (exact rfl); (exact rfl)) | (refine ao_is ?_; (fail_if_success first | refine ao_glit (b := true) rfl rfl (by with_reducible rfl) ?_ | refine ao_glit (b := false) rfl rfl (by with_reducible rfl) ?_); refine ao_gbool rfl rfl (fun _ => ?_) (fun _ => ?_)) | (refine aq_is ?_; (fail_if_success first | refine aq_glit (b := true) rfl rfl (by with_reducible rfl) ?_ | refine aq_glit (b := false) rfl rfl (by with_reducible rfl) ?_); refine aq_gbool rfl rfl (fun _ => ?_) (fun _ => ?_)) | (refine aw_is ?_; refine aw_cond rfl (fun _ => ?_) (fun _ => ?_)))
          exact fun w' hw => ⟨by first | rfl | rw [e2], hw.below⟩
        · repeat' (first | (apply ao_nilh; exact hsub_a) | apply ao_nil | apply aq_nil | apply ah_end | ((first | apply ao_val | apply aq_val | (apply ah_take; (exact rfl))); exact wants_a; (first | exact ov_sslice_lo rfl rfl rfl (by assumption) | exact ov_sslice_hi rfl rfl rfl (by assumption) | exact ov_a); (exact rfl)) | ((first | apply ao_skip | apply aq_skip | (apply ah_skip; (exact rfl))); exact nots_a; (exact rfl)) | (refine ao_is ?_; first | (apply ao_new; exact wants_a; exact on_a; (exact rfl); intro _) | (apply ao_store; exact wants_a; exact ow_a; exact upd_a) | (apply ao_valw; exact wants_a; exact ox_a; (exact rfl); exact upd_a) | (apply ao_skip0; exact nots_a) | (apply ao_append; exact wants_a; (exact rfl); assumption; (exact rfl); exact cut_a; exact has_a; (exact rfl); (exact rfl); omega; omega; omega; (exact rfl); intro vr lr hr)) | ((first | apply ao_call | apply aq_call); exact wants_a; (exact oc_func rfl); (exact rfl); (first | exact fun w hw => htx w (hG.below hw.below) | exact fun w hw => hpt w (hG.below hw.below) | exact fun w hw => hpl w (hG.below hw.below) | exact fun w hw => alive_ok w (hG.below hw.below) | exact fun w hw => hbt w (hG.below hw.below) | exact fun w hw => hfo w | exact fun w hw => hfl w | exact fun w hw => hpm' w (hG.below hw.below))) | (apply ah_one; (exact rfl)) | (apply ah_two; (exact rfl); (exact rfl)) | (refine aw_is ?_; first | refine aw_seq ?_ | refine aw_block ?_ | refine aw_region ?_ | refine aw_skip ?_ | refine aw_exit ?_ | refine aw_ret ?_ | refine aw_label ?_ | refine aw_scope ?_ | refine aw_cond_t rfl (by with_reducible rfl) ?_ | refine aw_cond_f rfl (by with_reducible rfl) ?_ | refine aw_draw (by kernel_rfl) (by kernel_rfl) ?_) | ((first | (apply ao_gt; (exact rfl)) | (apply aq_gt; (exact rfl)) | apply aw_ct); (exact rfl); exact t_a) | ((first | (apply ao_gf; (exact rfl)) | (apply aq_gf; (exact rfl)) | apply aw_cf); (exact rfl); exact f_a) | refine at_normal ?_ | refine at_exit ?_ | refine at_ret ?_ | refine ib_normal ?_ | refine ib_exit ?_ | refine ib_other ?_ | refine ib_ret ?_ | refine lq_exit ?_ | refine lq_ret ?_ | refine ci_ret ?_ | refine ci_exit ?_ | refine r1_ret rfl ?_ | refine r1_normal rfl ?_ | refine r2_ret rfl rfl ?_ | refine r2_normal rfl rfl ?_ | refine r3_ret rfl rfl rfl ?_ | refine r3_normal rfl rfl rfl ?_ | refine ng_normal ?_ | refine ng_exit ?_ | refine ng_ret ?_ | (apply rc1_ret; (exact rfl); exact has_a; (exact rfl)) | (apply rc2_ret; (exact rfl); exact has_a; (exact rfl); (exact rfl)) | (refine ao_is ?_; (fail_if_success first | refine ao_glit (b := true) rfl rfl (by with_reducible rfl) ?_ | refine ao_glit (b := false) rfl rfl (by with_reducible rfl) ?_); refine ao_gbool rfl rfl (fun _ => ?_) (fun _ => ?_)) | (refine aq_is ?_; (fail_if_success first | refine aq_glit (b := true) rfl rfl (by with_reducible rfl) ?_ | refine aq_glit (b := false) rfl rfl (by with_reducible rfl) ?_); refine aq_gbool rfl rfl (fun _ => ?_) (fun _ => ?_)) | (refine aw_is ?_; refine aw_cond rfl (fun _ => ?_) (fun _ => ?_)))
          exact fun w' hw => ⟨by first | rfl | rw [e2], hw.below⟩
      · by_cases hn : 0 ≤ n
        · obtain ⟨g1, g2⟩ := hfirst hn
          repeat' (first | (apply ao_nilh; exact hsub_a) | apply ao_nil | apply aq_nil | apply ah_end | ((first | apply ao_val | apply aq_val | (apply ah_take; (exact rfl))); exact wants_a; (first | exact ov_sslice_lo rfl rfl rfl (by assumption) | exact ov_sslice_hi rfl rfl rfl (by assumption) | exact ov_a); (exact rfl)) | ((first | apply ao_skip | apply aq_skip | (apply ah_skip; (exact rfl))); exact nots_a; (exact rfl)) | (refine ao_is ?_; first | (apply ao_new; exact wants_a; exact on_a; (exact rfl); intro _) | (apply ao_store; exact wants_a; exact ow_a; exact upd_a) | (apply ao_valw; exact wants_a; exact ox_a; (exact rfl); exact upd_a) | (apply ao_skip0; exact nots_a) | (apply ao_append; exact wants_a; (exact rfl); assumption; (exact rfl); exact cut_a; exact has_a; (exact rfl); (exact rfl); omega; omega; omega; (exact rfl); intro vr lr hr)) | ((first | apply ao_call | apply aq_call); exact wants_a; (exact oc_func rfl); (exact rfl); (first | exact fun w hw => htx w (hG.below hw.below) | exact fun w hw => hpt w (hG.below hw.below) | exact fun w hw => hpl w (hG.below hw.below) | exact fun w hw => alive_ok w (hG.below hw.below) | exact fun w hw => hbt w (hG.below hw.below) | exact fun w hw => hfo w | exact fun w hw => hfl w | exact fun w hw => hpm' w (hG.below hw.below))) | (apply ah_one; (exact rfl)) | (apply ah_two; (exact rfl); (exact rfl)) | (refine aw_is ?_; first | refine aw_seq ?_ | refine aw_block ?_ | refine aw_region ?_ | refine aw_skip ?_ | refine aw_exit ?_ | refine aw_ret ?_ | refine aw_label ?_ | refine aw_scope ?_ | refine aw_cond_t rfl (by with_reducible rfl) ?_ | refine aw_cond_f rfl (by with_reducible rfl) ?_ | refine aw_draw (by kernel_rfl) (by kernel_rfl) ?_) | ((first | (apply ao_gt; (exact rfl)) | (apply aq_gt; (exact rfl)) | apply aw_ct); (exact rfl); exact t_a) | ((first | (apply ao_gf; (exact rfl)) | (apply aq_gf; (exact rfl)) | apply aw_cf); (exact rfl); exact f_a) | refine at_normal ?_ | refine at_exit ?_ | refine at_ret ?_ | refine ib_normal ?_ | refine ib_exit ?_ | refine ib_other ?_ | refine ib_ret ?_ | refine lq_exit ?_ | refine lq_ret ?_ | refine ci_ret ?_ | refine ci_exit ?_ | refine r1_ret rfl ?_ | refine r1_normal rfl ?_ | refine r2_ret rfl rfl ?_ | refine r2_normal rfl rfl ?_ | refine r3_ret rfl rfl rfl ?_ | refine r3_normal rfl rfl rfl ?_ | refine ng_normal ?_ | refine ng_exit ?_ | refine ng_ret ?_ | (apply rc1_ret; (exact rfl); exact has_a; (exact rfl)) | (apply rc2_ret; (exact rfl); exact has_a; (exact rfl); (exact rfl)) | (refine ao_is ?_; (fail_if_success first | refine ao_glit (b := true) rfl rfl (by with_reducible rfl) ?_ | refine ao_glit (b := false) rfl rfl (by with_reducible rfl) ?_); refine ao_gbool rfl rfl (fun _ => ?_) (fun _ => ?_)) | (refine aq_is ?_; (fail_if_success first | refine aq_glit (b := true) rfl rfl (by with_reducible rfl) ?_ | refine aq_glit (b := false) rfl rfl (by with_reducible rfl) ?_); refine aq_gbool rfl rfl (fun _ => ?_) (fun _ => ?_)) | (refine aw_is ?_; refine aw_cond rfl (fun _ => ?_) (fun _ => ?_)))
          exact fun w' hw => ⟨rfl, hw.below⟩
        · repeat' (first | (apply ao_nilh; exact hsub_a) | apply ao_nil | apply aq_nil | apply ah_end | ((first | apply ao_val | apply aq_val | (apply ah_take; (exact rfl))); exact wants_a; (first | exact ov_sslice_lo rfl rfl rfl (by assumption) | exact ov_sslice_hi rfl rfl rfl (by assumption) | exact ov_a); (exact rfl)) | ((first | apply ao_skip | apply aq_skip | (apply ah_skip; (exact rfl))); exact nots_a; (exact rfl)) | (refine ao_is ?_; first | (apply ao_new; exact wants_a; exact on_a; (exact rfl); intro _) | (apply ao_store; exact wants_a; exact ow_a; exact upd_a) | (apply ao_valw; exact wants_a; exact ox_a; (exact rfl); exact upd_a) | (apply ao_skip0; exact nots_a) | (apply ao_append; exact wants_a; (exact rfl); assumption; (exact rfl); exact cut_a; exact has_a; (exact rfl); (exact rfl); omega; omega; omega; (exact rfl); intro vr lr hr)) | ((first | apply ao_call | apply aq_call); exact wants_a; (exact oc_func rfl); (exact rfl); (first | exact fun w hw => htx w (hG.below hw.below) | exact fun w hw => hpt w (hG.below hw.below) | exact fun w hw => hpl w (hG.below hw.below) | exact fun w hw => alive_ok w (hG.below hw.below) | exact fun w hw => hbt w (hG.below hw.below) | exact fun w hw => hfo w | exact fun w hw => hfl w | exact fun w hw => hpm' w (hG.below hw.below))) | (apply ah_one; (exact rfl)) | (apply ah_two; (exact rfl); (exact rfl)) | (refine aw_is ?_; first | refine aw_seq ?_ | refine aw_block ?_ | refine aw_region ?_ | refine aw_skip ?_ | refine aw_exit ?_ | refine aw_ret ?_ | refine aw_label ?_ | refine aw_scope ?_ | refine aw_cond_t rfl (by with_reducible rfl) ?_ | refine aw_cond_f rfl (by with_reducible rfl) ?_ | refine aw_draw (by kernel_rfl) (by kernel_rfl) ?_) | ((first | (apply ao_gt; (exact rfl)) | (apply aq_gt; (exact rfl)) | apply aw_ct); (exact rfl); exact t_a) | ((first | (apply ao_gf; (exact rfl)) | (apply aq_gf; (exact rfl)) | apply aw_cf); (exact rfl); exact f_a) | refine at_normal ?_ | refine at_exit ?_ | refine at_ret ?_ | refine ib_normal ?_ | refine ib_exit ?_ | refine ib_other ?_ | refine ib_ret ?_ | refine lq_exit ?_ | refine lq_ret ?_ | refine ci_ret ?_ | refine ci_exit ?_ | refine r1_ret rfl ?_ | refine r1_normal rfl ?_ | refine r2_ret rfl rfl ?_ | refine r2_normal rfl rfl ?_ | refine r3_ret rfl rfl rfl ?_ | refine r3_normal rfl rfl rfl ?_ | refine ng_normal ?_ | refine ng_exit ?_ | refine ng_ret ?_ | (apply rc1_ret; (exact rfl); exact has_a; (exact rfl)) | (apply rc2_ret; (exact rfl); exact has_a; (exact rfl); (exact rfl)) | (refine ao_is ?_; (fail_if_success first | refine ao_glit (b := true) rfl rfl (by with_reducible rfl) ?_ | refine ao_glit (b := false) rfl rfl (by with_reducible rfl) ?_); refine ao_gbool rfl rfl (fun _ => ?_) (fun _ => ?_)) | (refine aq_is ?_; (fail_if_success first | refine aq_glit (b := true) rfl rfl (by with_reducible rfl) ?_ | refine aq_glit (b := false) rfl rfl (by with_reducible rfl) ?_); refine aq_gbool rfl rfl (fun _ => ?_) (fun _ => ?_)) | (refine aw_is ?_; refine aw_cond rfl (fun _ => ?_) (fun _ => ?_)))
          exact fun w' hw => ⟨rfl, hw.below⟩
end Qty
end Go.Proofs.YticcmnknpmkenaaDoor
