/- Contract of the document's answer for layer 2: texts; conditions: none. -/
import Derived.Test.YteclgkemggmabaaDoorWtext
namespace Go.Proofs.YteclgkemggmabaaDoor
namespace Wid
open Go Go.RowKit Sx
attribute [local irreducible] Go.Calls

theorem bits_zero (n : Nat) : bitsL 0 n = List.replicate n (I 0) := by
  apply List.ext_getElem?
  intro j
  by_cases h : j < n
  · rw [bitsL_get _ _ _ h]
    have : bit 0 j = 0 := by simp [bit]
    rw [this]
    simp [h]
  · simp [bitsL, h]
theorem rowz (g n : Nat) : RowB 3 1 (.slice (some ⟨g, 0, none⟩) n n) [(g, .cells (List.replicate n (I 0)).toArray 3 (0, 0))] n (bitsL 0 n) := by
  rw [bits_zero]; exact RowB.lit (by simp)

/-- Figures of twice V, and c, up to k; behind them those of V. -/
def mixL (V c : Int) (k L : Nat) : List Value := (List.range L).map fun j => I (if j < k then dig (2 * V + c) j else dig V j)
def digV (V : Int) (L : Nat) : List Value := (List.range L).map fun j => I (dig V j)
theorem mix_0 (V c : Int) (L : Nat) : mixL V c 0 L = digV V L := by simp [mixL, digV]
theorem mix_get (V c : Int) (L k : Nat) (h : k < L) : (mixL V c k L)[k]? = some (I (dig V k)) := by simp [mixL, h]
theorem mix_set (V c : Int) (L k : Nat) : (mixL V c k L).set k (I (dig (2 * V + c) k)) = mixL V c (k + 1) L := by
  apply List.ext_getElem?
  intro j
  by_cases e : k = j
  · subst e
    by_cases hi : k < L
    · simp [mixL, hi]
    · simp [mixL, hi]
  · rw [List.getElem?_set_ne e]
    by_cases hj : j < L
    · have : (j < k) = (j < k + 1) := by simp; omega
      simp [mixL, hj, this]
    · simp [mixL, hj]
theorem mix_n (V c : Int) (L : Nat) : mixL V c L L = digV (2 * V + c) L := by
  apply List.ext_getElem?
  intro j
  by_cases hj : j < L
  · simp [mixL, digV, hj]
  · simp [mixL, digV, hj]
theorem digV_succ (V : Int) (L : Nat) : digV V (L + 1) = digV V L ++ [I (dig V L)] := by simp [digV, List.range_succ]
theorem digV_get (V : Int) (L k : Nat) (h : k < L) : (digV V L)[k]? = some (I (dig V k)) := by simp [digV, h]
theorem digV_len (V : Int) (L : Nat) : (digV V L).length = L := by simp [digV]
theorem txt_len (X : Int) (L : Nat) : (txt X L).length = (if X < 0 then 1 else 0) + L := by
  unfold txt; split <;> simp [digL_len]; omega
/-- A text's bytes, from the highest figure on. -/
theorem txt_get (X : Int) (L m : Nat) (h : m < L) : (txt X L)[(if X < 0 then 1 else 0) + m]? = some (fb (dig X.natAbs (L - 1 - m))) := by
  have key : (((digL X.natAbs L).map fb).reverse)[m]? = some (fb (dig X.natAbs (L - 1 - m))) := by
    rw [List.getElem?_reverse (by simpa [digL_len] using h)]
    simp only [List.length_map, digL_len, List.getElem?_map]
    rw [digL_get _ _ _ (by omega)]
    rfl
  unfold txt
  split
  · rw [Nat.add_comm]; simpa using key
  · simpa using key
def b8s (l : List UInt8) : List Value := l.map fun c => B8 (c.toNat : Int)
theorem txt_take (X : Int) (L m : Nat) (h : m < L) : b8s ((txt X L).take ((if X < 0 then 1 else 0) + (m + 1))) = b8s ((txt X L).take ((if X < 0 then 1 else 0) + m)) ++ [B8 (48 + dig X.natAbs (L - 1 - m))] := by
  have hl := txt_len X L
  have hg := txt_get X L m h
  rw [← Nat.add_assoc, List.take_add_one, hg]
  simp [b8s, fb_nat]
theorem txt_none (X : Int) (L : Nat) : b8s ((txt X L).take ((if X < 0 then 1 else 0) + 0)) = if X < 0 then [B8 45] else [] := by
  unfold txt; split <;> simp [b8s]

set_option maxHeartbeats 4000000 in
theorem rtext_ok (hi lo : Int) (L : Nat) (hW : isW hi lo) (hL : IsLen (num hi lo).natAbs L) (w : World) :
    Calls Tryd.prog 45 #[W2 hi lo] w fun e w' => e = .returned (S (txt (num hi lo) L)) ∧ Below w.heap.size w w' := by
  have hin := num_inW hW
  unfold inW at hin
  obtain ⟨N, hN⟩ : ∃ N : Int, ((num hi lo).natAbs : Int) = N := ⟨_, rfl⟩
  have hN0 : 0 ≤ N := by omega
  rw [hN] at hL
  obtain ⟨n, hn⟩ : ∃ n : Nat, n = 129 := ⟨_, rfl⟩
  have hbits : ∀ w, Calls Tryd.prog 57 #[W2 hi lo, I 1] w fun e w' => ∃ v, e = .returned v ∧ NewRow 3 1 w w' v n (bitsL (num hi lo) n) := by
    intro w; rw [hn]; exact bits_ok hi lo 1 hW (by decide) w
  refine calls1 (args := [W2 hi lo]) Tryd.func45 rfl rfl rfl rfl ?_
  repeat' (first | refine ao_nil ?_ | refine aq_nil ?_ | refine zov ?_ | refine zqv ?_ | refine zok ?_ | refine zqk ?_ | refine zon fun _ => ?_ | refine zow ?_ | refine zox ?_ | refine zoz ?_ | refine zoa fun vr lr hr => ?_ | (apply ao_callr; exact wants_a; (exact oc_func rfl); (exact rfl); (first | exact fun w hw => hbits w); intro vr lr hr) | (refine aw_is ?_; first | refine aw_cutI_at (id := 9) (fun t H => ∃ b v l, RowB 3 1 v l n (bitsL N n) ∧ t = [(1, .pointer (some ⟨b, 0, none⟩)), (3, v)] ∧ H = l ++ [(b, .cells #[I hi, U lo] 36)]) ?_ ?_ | refine aw_cutI_at2 (id := 9) (fun t H => ∃ b v l, RowB 3 1 v l n (bitsL N n) ∧ t = [(1, .pointer (some ⟨b, 0, none⟩)), (3, v)] ∧ H = l ++ [(b, .cells #[I hi, U lo] 36)]) ?_ ?_ | refine aw_seq ?_ | refine aw_block ?_ | refine aw_region ?_ | refine aw_skip ?_ | refine aw_exit ?_ | refine aw_ret ?_ | refine aw_label ?_ | refine aw_scope ?_ | refine zwt ?_ | refine zwf ?_ | refine zwd ?_) | refine zoT ?_ | refine zqT ?_ | refine zwT ?_ | refine zoF ?_ | refine zqF ?_ | refine zwF ?_ | refine zp ?_ | refine ib_exit ?_ | refine ib_other ?_ | refine zr1 ?_ | refine zr2 ?_ | refine zr3 ?_ | refine zrt ?_ | refine zrc ?_ | refine zrd ?_ | refine zoS (fun _ => ?_) (fun _ => ?_) | refine zqS (fun _ => ?_) (fun _ => ?_) | refine zwS (fun _ => ?_) (fun _ => ?_))
  · have hneg : hi < 0 := by rename_i h; simpa using h
    have hX : num hi lo < 0 := by unfold isW at hW; unfold num; omega
    refine aw_for (t0 := [(1, .pointer (some ⟨_, 0, none⟩)), (3, vr), (4, I (0 : Nat))]) (fun q t H => ∃ (b i : Nat) (v : Value) (l : Hp), q = n - i ∧ i ≤ n ∧ RowB 3 1 v l n (flipL (num hi lo) i n) ∧ t = [(1, .pointer (some ⟨b, 0, none⟩)), (3, v), (4, I i)] ∧ H = l ++ [(b, .cells #[I hi, U lo] 36)]) ⟨_, 0, _, _, rfl, by omega, by rw [flip_0]; exact hr, rfl, rfl⟩ (by repeat (first | exact sub_nil | refine sub_cons rfl ?_)) ?_
    clear hr
    rintro q t H ⟨b, i, v, l, rfl, hi0, hr, rfl, rfl⟩
    have hr0 := hr
    obtain ⟨g, cap, cs, rfl, rfl, hc1, hc2, hc3⟩ := hr0.open (by omega)
    by_cases hlt : i < n
    · have hci : cs[0 + (i : Int).toNat * 1]? = some (I (bit (num hi lo) i)) := row_cell hc3 (by simpa using flip_get _ _ i hlt)
      have hb := bit_01 (num hi lo) i
      have hlen : 0 + (i : Int).toNat * 1 < cs.length := by omega
      have hset := RowB.set1 (e := 3) (g := g) (v := I (1 - bit (num hi lo) i)) hc1 hc2 hc3 (show 0 + (i : Int).toNat * 1 = i by omega)
      rw [flip_set] at hset
      repeat' (first | refine ao_nil ?_ | refine aq_nil ?_ | refine zov ?_ | refine zqv ?_ | refine zok ?_ | refine zqk ?_ | refine zon fun _ => ?_ | refine zow ?_ | refine zox ?_ | refine zoz ?_ | refine zoa fun vr lr hr => ?_ | (refine aw_is ?_; first | refine aw_seq ?_ | refine aw_block ?_ | refine aw_region ?_ | refine aw_skip ?_ | refine aw_exit ?_ | refine aw_ret ?_ | refine aw_label ?_ | refine aw_scope ?_ | refine zwt ?_ | refine zwf ?_ | refine zwd ?_) | refine zoT ?_ | refine zqT ?_ | refine zwT ?_ | refine zoF ?_ | refine zqF ?_ | refine zwF ?_ | refine zp ?_ | refine ib_exit ?_ | refine ib_other ?_ | refine zr1 ?_ | refine zr2 ?_ | refine zr3 ?_ | refine zrt ?_ | refine zrc ?_ | refine zrd ?_ | refine zoS (fun _ => ?_) (fun _ => ?_) | refine zqS (fun _ => ?_) (fun _ => ?_) | refine zwS (fun _ => ?_) (fun _ => ?_))
      exact lq_normal' ⟨b, i + 1, _, _, rfl, by omega, hset, rfl, rfl⟩ (by omega) (by repeat (first | exact sub_nil | refine sub_cons rfl ?_)) (List.Sublist.refl _)
    · obtain rfl : i = n := by omega
      rw [flip_n] at hr
      have hz : -1 - num hi lo + 0 + 1 = N := by omega
      repeat' (first | refine ao_nil ?_ | refine aq_nil ?_ | refine zov ?_ | refine zqv ?_ | refine zok ?_ | refine zqk ?_ | refine zon fun _ => ?_ | refine zow ?_ | refine zox ?_ | refine zoz ?_ | refine zoa fun vr lr hr => ?_ | (apply ao_callr; exact wants_a; (exact oc_func rfl); (exact rfl); (first | exact fun w hw => sum_ok (-1 - num hi lo) 0 1 _ _ _ (.inr rfl) (by omega) w (hw.oldr (by assumption) cut_a) (hw.oldr (rowz _ _) cut_a)); intro vr lr hr) | (refine aw_is ?_; first | refine aw_seq ?_ | refine aw_block ?_ | refine aw_region ?_ | refine aw_skip ?_ | refine aw_exit ?_ | refine aw_ret ?_ | refine aw_label ?_ | refine aw_scope ?_ | refine zwt ?_ | refine zwf ?_ | refine zwd ?_) | refine zoT ?_ | refine zqT ?_ | refine zwT ?_ | refine zoF ?_ | refine zqF ?_ | refine zwF ?_ | refine zp ?_ | refine ib_exit ?_ | refine ib_other ?_ | refine zr1 ?_ | refine zr2 ?_ | refine zr3 ?_ | refine zrt ?_ | refine zrc ?_ | refine zrd ?_ | refine zoS (fun _ => ?_) (fun _ => ?_) | refine zqS (fun _ => ?_) (fun _ => ?_) | refine zwS (fun _ => ?_) (fun _ => ?_))
      rw [hz] at hr
      exact ci_normal ⟨_, _, _, hr, rfl, rfl⟩ (by repeat (first | exact sub_nil | refine sub_cons rfl ?_)) hsub_a
  · have hneg : ¬ hi < 0 := by rename_i h; simpa using h
    have hz : num hi lo = N := by unfold isW at hW; unfold num at *; omega
    rw [hz] at hr
    exact ci_normal ⟨_, _, _, hr, rfl, rfl⟩ (by repeat (first | exact sub_nil | refine sub_cons rfl ?_)) hsub_a
  · rintro t H ⟨b, v, l, hr, rfl, rfl⟩
    obtain ⟨g, cap, cs, rfl, rfl, hc1, hc2, hc3⟩ := hr.open (by omega)
    repeat' (first | refine ao_nil ?_ | refine aq_nil ?_ | refine zov ?_ | refine zqv ?_ | refine zok ?_ | refine zqk ?_ | refine zon fun _ => ?_ | refine zow ?_ | refine zox ?_ | refine zoz ?_ | refine zoa fun vr lr hr => ?_ | (refine aw_is ?_; first | refine aw_seq ?_ | refine aw_block ?_ | refine aw_region ?_ | refine aw_skip ?_ | refine aw_exit ?_ | refine aw_ret ?_ | refine aw_label ?_ | refine aw_scope ?_ | refine zwt ?_ | refine zwf ?_ | refine zwd ?_) | refine zoT ?_ | refine zqT ?_ | refine zwT ?_ | refine zoF ?_ | refine zqF ?_ | refine zwF ?_ | refine zp ?_ | refine ib_exit ?_ | refine ib_other ?_ | refine zr1 ?_ | refine zr2 ?_ | refine zr3 ?_ | refine zrt ?_ | refine zrc ?_ | refine zrd ?_ | refine zoS (fun _ => ?_) (fun _ => ?_) | refine zqS (fun _ => ?_) (fun _ => ?_) | refine zwS (fun _ => ?_) (fun _ => ?_))
    have hbig : N / 2 ^ n = 0 := by
      rw [hn, show (2 : Int) ^ 129 = 680564733841876926926749214863536422912 by decide]; omega
    have hrow : ∀ g, RowB 3 1 (.slice (some ⟨g, 0, none⟩) 1 1) [(g, .cells #[I 0] 3 (0, 0))] 1 (digV (N / 2 ^ n) 1) := by
      intro g
      have e : digV (N / 2 ^ n) 1 = [I 0] := by rw [hbig]; rfl
      rw [e]; exact RowB.lit rfl
    refine aw_for (t0 := [(1, .pointer (some ⟨b, 0, none⟩)), (3, .slice (some ⟨g, 0, none⟩) n cap), (6, .slice (some ⟨_, 0, none⟩) 1 1), (7, I ((n : Int) - 1))]) (fun q t H => ∃ (M : Nat) (fv : Value) (fl : Hp), q ≤ n ∧ M ≤ 1 + (n - q) ∧ IsLen (N / 2 ^ q) M ∧ RowB 3 1 fv fl M (digV (N / 2 ^ q) M) ∧ t = [(1, .pointer (some ⟨b, 0, none⟩)), (3, .slice (some ⟨g, 0, none⟩) n cap), (6, fv), (7, I ((q : Int) - 1))] ∧ H = fl ++ [(g, .cells cs.toArray 3), (b, .cells #[I hi, U lo] 36)]) (m := n) ⟨1, _, _, by omega, by omega, by rw [hbig]; exact len_zero, hrow _, rfl, rfl⟩ (by repeat (first | exact sub_nil | refine sub_cons rfl ?_)) ?_
    clear hrow
    rintro q t H ⟨M, fv, fl, hq, hM, hLen, hfr, rfl, rfl⟩
    obtain ⟨g2, cap2, cs2, rfl, rfl, hd1, hd2, hd3⟩ := hfr.open (by have := hLen.1; omega)
    have hV0 : 0 ≤ N / 2 ^ q := Int.ediv_nonneg hN0 (Int.le_of_lt (pow_pos2 q))
    rcases Nat.eq_zero_or_pos q with rfl | hq0
    · have e1 : N / 2 ^ 0 = N := by simp
      rw [e1] at hLen hfr hd3
      obtain rfl := isLen_uniq hLen hL
      obtain ⟨T, hT⟩ : ∃ T, T = txt (num hi lo) M := ⟨_, rfl⟩
      obtain ⟨s, hs⟩ : ∃ s : Nat, (if num hi lo < 0 then 1 else 0) = s := ⟨_, rfl⟩
      have hlenT := txt_len (num hi lo) M
      have hnone := txt_none (num hi lo) M
      have htake := txt_take (num hi lo) M
      rw [hs, ← hT] at hlenT hnone htake
      rw [hN] at htake
      rw [← hT]
      have hs1 : s ≤ 1 := by rw [← hs]; split <;> omega
      have hM1 := hLen.1
      have hnil : RowB 5 1 (.slice none 0 0) [] 0 [] := RowB.nil
      repeat' (first | refine ao_nil ?_ | refine aq_nil ?_ | refine zov ?_ | refine zqv ?_ | refine zok ?_ | refine zqk ?_ | refine zon fun _ => ?_ | refine zow ?_ | refine zox ?_ | refine zoz ?_ | refine zoa fun vr lr hr => ?_ | (refine aw_is ?_; first | refine aw_cutI_at (id := 25) (fun t H => ∃ ov ol, RowB 5 1 ov ol (s + 0) (b8s (T.take (s + 0))) ∧ t = [(6, .slice (some ⟨g2, 0, none⟩) M cap2), (11, ov)] ∧ H = ol ++ [(g2, .cells cs2.toArray 3)]) ?_ ?_ | refine aw_cutI_at2 (id := 25) (fun t H => ∃ ov ol, RowB 5 1 ov ol (s + 0) (b8s (T.take (s + 0))) ∧ t = [(6, .slice (some ⟨g2, 0, none⟩) M cap2), (11, ov)] ∧ H = ol ++ [(g2, .cells cs2.toArray 3)]) ?_ ?_ | refine aw_seq ?_ | refine aw_block ?_ | refine aw_region ?_ | refine aw_skip ?_ | refine aw_exit ?_ | refine aw_ret ?_ | refine aw_label ?_ | refine aw_scope ?_ | refine zwt ?_ | refine zwf ?_ | refine zwd ?_) | refine zoT ?_ | refine zqT ?_ | refine zwT ?_ | refine zoF ?_ | refine zqF ?_ | refine zwF ?_ | refine zp ?_ | refine ib_exit ?_ | refine ib_other ?_ | refine zr1 ?_ | refine zr2 ?_ | refine zr3 ?_ | refine zrt ?_ | refine zrc ?_ | refine zrd ?_ | refine zoS (fun _ => ?_) (fun _ => ?_) | refine zqS (fun _ => ?_) (fun _ => ?_) | refine zwS (fun _ => ?_) (fun _ => ?_))
      · have hX : num hi lo < 0 := by
          have h : decide (hi < 0) = true := by assumption
          have := of_decide_eq_true h
          unfold isW at hW; unfold num; omega
        have e2 : s = 1 := by rw [← hs, if_pos hX]
        rw [if_pos hX] at hnone
        refine ci_normal ⟨_, _, ?_, rfl, rfl⟩ (by repeat (first | exact sub_nil | refine sub_cons rfl ?_)) hsub_a
        rw [hnone, e2]
        exact hr
      · have hX : ¬ num hi lo < 0 := by rename_i h; have := of_decide_eq_false h; unfold isW at hW; unfold num; omega
        have e2 : s = 0 := by rw [← hs, if_neg hX]
        rw [if_neg hX] at hnone
        refine ci_normal (t1 := [(6, .slice (some ⟨g2, 0, none⟩) M cap2), (11, .slice none 0 0)]) ⟨_, [], ?_, rfl, rfl⟩ (by repeat (first | exact sub_nil | refine sub_cons rfl ?_)) hsub_a
        rw [hnone, e2]
        exact hnil
      · rintro t H ⟨ov, ol, hov, rfl, rfl⟩
        repeat' (first | refine ao_nil ?_ | refine aq_nil ?_ | refine zov ?_ | refine zqv ?_ | refine zok ?_ | refine zqk ?_ | refine zon fun _ => ?_ | refine zow ?_ | refine zox ?_ | refine zoz ?_ | refine zoa fun vr lr hr => ?_ | (refine aw_is ?_; first | refine aw_seq ?_ | refine aw_block ?_ | refine aw_region ?_ | refine aw_skip ?_ | refine aw_exit ?_ | refine aw_ret ?_ | refine aw_label ?_ | refine aw_scope ?_ | refine zwt ?_ | refine zwf ?_ | refine zwd ?_) | refine zoT ?_ | refine zqT ?_ | refine zwT ?_ | refine zoF ?_ | refine zqF ?_ | refine zwF ?_ | refine zp ?_ | refine ib_exit ?_ | refine ib_other ?_ | refine zr1 ?_ | refine zr2 ?_ | refine zr3 ?_ | refine zrt ?_ | refine zrc ?_ | refine zrd ?_ | refine zoS (fun _ => ?_) (fun _ => ?_) | refine zqS (fun _ => ?_) (fun _ => ?_) | refine zwS (fun _ => ?_) (fun _ => ?_))
        refine aw_for (t0 := [(6, .slice (some ⟨g2, 0, none⟩) M cap2), (11, ov), (12, I ((M : Int) - 1 - (0 : Nat)))]) (fun q t H => ∃ (m : Nat) (ov : Value) (ol : Hp), q = M - m ∧ m ≤ M ∧ RowB 5 1 ov ol (s + m) (b8s (T.take (s + m))) ∧ t = [(6, .slice (some ⟨g2, 0, none⟩) M cap2), (11, ov), (12, I ((M : Int) - 1 - m))] ∧ H = ol ++ [(g2, .cells cs2.toArray 3)]) (m := M) ⟨0, _, _, by omega, by omega, hov, rfl, rfl⟩ (by exact sub_cons rfl (sub_cons rfl (sub_cons' rfl (congrArg I (by omega)) sub_nil))) ?_
        clear hov
        rintro r t H ⟨m, ov, ol, rfl, hm, hov, rfl, rfl⟩
        by_cases hlt : m < M
        · have hdk : cs2[0 + ((M : Int) - 1 - m).toNat * 1]? = some (I (dig N (M - 1 - m))) := row_cell hd3 (by rw [show 0 + ((M : Int) - 1 - m).toNat * 1 = M - 1 - m by omega]; exact digV_get N M (M - 1 - m) (by omega))
          have hdr := dig_rng N (M - 1 - m)
          have htk := htake m hlt
          generalize dig N (M - 1 - m) = d at *
          repeat' (first | refine ao_nil ?_ | refine aq_nil ?_ | ((first | apply ao_val | apply aq_val); exact wants_a; (first | exact ov_convR (48 + d) rfl (wrap_u8 (by omega) (by omega)) | exact ov_a); (exact rfl)) | refine zok ?_ | refine zqk ?_ | refine zon fun _ => ?_ | refine zow ?_ | refine zox ?_ | refine zoz ?_ | refine zoa fun vr lr hr => ?_ | (refine aw_is ?_; first | refine aw_seq ?_ | refine aw_block ?_ | refine aw_region ?_ | refine aw_skip ?_ | refine aw_exit ?_ | refine aw_ret ?_ | refine aw_label ?_ | refine aw_scope ?_ | refine zwt ?_ | refine zwf ?_ | refine zwd ?_) | refine zoT ?_ | refine zqT ?_ | refine zwT ?_ | refine zoF ?_ | refine zqF ?_ | refine zwF ?_ | refine zp ?_ | refine ib_exit ?_ | refine ib_other ?_ | refine zr1 ?_ | refine zr2 ?_ | refine zr3 ?_ | refine zrt ?_ | refine zrc ?_ | refine zrd ?_ | refine zoS (fun _ => ?_) (fun _ => ?_) | refine zqS (fun _ => ?_) (fun _ => ?_) | refine zwS (fun _ => ?_) (fun _ => ?_))
          refine lq_normal' ⟨m + 1, _, _, rfl, by omega, ?_, rfl, rfl⟩ (by omega) (by exact sub_cons rfl (sub_cons rfl (sub_cons' rfl (congrArg I (by omega)) sub_nil))) hsub_a
          rw [htk]
          exact hr
        · obtain rfl : m = M := by omega
          obtain ⟨g3, cap3, cs3, rfl, rfl, hf1, hf2, hf3⟩ := hov.open (by omega)
          have hc9 : (cs3.drop 0).take (s + m) = T.map fun c => B8 (c.toNat : Int) := by
            rw [List.drop_zero, ← Nat.mul_one (s + m), hf3]
            unfold b8s
            rw [List.take_of_length_le (by omega)]
          repeat' (first | refine ao_nil ?_ | refine aq_nil ?_ | ((first | apply ao_val | apply aq_val); exact wants_a; (first | exact ov_b2s rfl (by solve | (repeat (first | exact Has.head | apply Has.tail | apply Has.appR))) (by omega) hc9 | exact ov_a); (exact rfl)) | refine zok ?_ | refine zqk ?_ | refine zon fun _ => ?_ | refine zow ?_ | refine zox ?_ | refine zoz ?_ | refine zoa fun vr lr hr => ?_ | (refine aw_is ?_; first | refine aw_seq ?_ | refine aw_block ?_ | refine aw_region ?_ | refine aw_skip ?_ | refine aw_exit ?_ | refine aw_ret ?_ | refine aw_label ?_ | refine aw_scope ?_ | refine zwt ?_ | refine zwf ?_ | refine zwd ?_) | refine zoT ?_ | refine zqT ?_ | refine zwT ?_ | refine zoF ?_ | refine zqF ?_ | refine zwF ?_ | refine zp ?_ | refine ib_exit ?_ | refine ib_other ?_ | refine zr1 ?_ | refine zr2 ?_ | refine zr3 ?_ | refine zrt ?_ | refine zrc ?_ | refine zrd ?_ | refine zoS (fun _ => ?_) (fun _ => ?_) | refine zqS (fun _ => ?_) (fun _ => ?_) | refine zwS (fun _ => ?_) (fun _ => ?_))
          exact fun w' hw => ⟨rfl, hw.below⟩
    · obtain ⟨p, rfl⟩ : ∃ p, q = p + 1 := ⟨q - 1, by omega⟩
      have hhalf := half_up N p
      have hbit := bit_01 N p
      have hp1 : ((p + 1 : Nat) : Int) - 1 = p := by omega
      rw [hp1]
      have hci : cs[0 + (p : Int).toNat * 1]? = some (I (bit N p)) := row_cell hc3 (by simpa using bitsL_get N n p (by omega))
      generalize N / 2 ^ (p + 1) = V at *
      generalize bit N p = c at *
      have hc01 : 0 ≤ c ∧ c ≤ 1 := by omega
      repeat' (first | refine ao_nil ?_ | refine aq_nil ?_ | refine zov ?_ | refine zqv ?_ | refine zok ?_ | refine zqk ?_ | refine zon fun _ => ?_ | refine zow ?_ | refine zox ?_ | refine zoz ?_ | refine zoa fun vr lr hr => ?_ | (refine aw_is ?_; first | refine aw_seq ?_ | refine aw_block ?_ | refine aw_region ?_ | refine aw_skip ?_ | refine aw_exit ?_ | refine aw_ret ?_ | refine aw_label ?_ | refine aw_scope ?_ | refine zwt ?_ | refine zwf ?_ | refine zwd ?_) | refine zoT ?_ | refine zqT ?_ | refine zwT ?_ | refine zoF ?_ | refine zqF ?_ | refine zwF ?_ | refine zp ?_ | refine ib_exit ?_ | refine ib_other ?_ | refine zr1 ?_ | refine zr2 ?_ | refine zr3 ?_ | refine zrt ?_ | refine zrc ?_ | refine zrd ?_ | refine zoS (fun _ => ?_) (fun _ => ?_) | refine zqS (fun _ => ?_) (fun _ => ?_) | refine zwS (fun _ => ?_) (fun _ => ?_))
      refine aw_forH (H0 := [(g2, .cells cs2.toArray 3), (g, .cells cs.toArray 3), (b, .cells #[I hi, U lo] 36)]) (t0 := [(1, .pointer (some ⟨b, 0, none⟩)), (3, .slice (some ⟨g, 0, none⟩) n cap), (6, .slice (some ⟨g2, 0, none⟩) M cap2), (7, I p), (8, I (dcar V c 0)), (9, I (0 : Nat))]) (fun r t H => ∃ (k : Nat) (ds : List Value), r = M - k ∧ k ≤ M ∧ ds.length = cap2 * 1 ∧ ds.take (M * 1) = mixL V c k M ∧ t = [(1, .pointer (some ⟨b, 0, none⟩)), (3, .slice (some ⟨g, 0, none⟩) n cap), (6, .slice (some ⟨g2, 0, none⟩) M cap2), (7, I p), (8, I (dcar V c k)), (9, I k)] ∧ H = [(g2, .cells ds.toArray 3), (g, .cells cs.toArray 3), (b, .cells #[I hi, U lo] 36)]) (m := M) ⟨0, _, by omega, by omega, hd2, by rw [mix_0]; exact hd3, rfl, rfl⟩ (by exact sub_cons rfl (sub_cons rfl (sub_cons rfl (sub_cons rfl (sub_cons' rfl (by rw [dcar_zero]) (sub_cons rfl sub_nil)))))) hsub_a ?_
      rintro r t H ⟨k, ds, rfl, hk, hl, hds, rfl, rfl⟩
      have hcar := dcar_rng V c k hc01
      by_cases hlt : k < M
      · have hdk : ds[0 + (k : Int).toNat * 1]? = some (I (dig V k)) := row_cell hds (by simpa using mix_get V c M k hlt)
        have hdr := dig_rng V k
        have htd := twice_dig V c k
        have hcs := dcar_succ V c k
        have hlen : 0 + (k : Int).toNat * 1 < ds.length := by omega
        have hset : (ds.set (0 + (k : Int).toNat * 1) (I ((2 * dig V k + dcar V c k) % 10))).take (M * 1) = mixL V c (k + 1) M := by
          rw [← htd, ← mix_set, ← hds, List.take_set, show 0 + (k : Int).toNat * 1 = k by omega]
        generalize dig V k = d at *
        generalize dcar V c k = e at *
        repeat' (first | refine ao_nil ?_ | refine aq_nil ?_ | refine zov ?_ | refine zqv ?_ | refine zok ?_ | refine zqk ?_ | refine zon fun _ => ?_ | refine zow ?_ | refine zox ?_ | refine zoz ?_ | refine zoa fun vr lr hr => ?_ | (refine aw_is ?_; first | refine aw_seq ?_ | refine aw_block ?_ | refine aw_region ?_ | refine aw_skip ?_ | refine aw_exit ?_ | refine aw_ret ?_ | refine aw_label ?_ | refine aw_scope ?_ | refine zwt ?_ | refine zwf ?_ | refine zwd ?_) | refine zoT ?_ | refine zqT ?_ | refine zwT ?_ | refine zoF ?_ | refine zqF ?_ | refine zwF ?_ | refine zp ?_ | refine ib_exit ?_ | refine ib_other ?_ | refine zr1 ?_ | refine zr2 ?_ | refine zr3 ?_ | refine zrt ?_ | refine zrc ?_ | refine zrd ?_ | refine zoS (fun _ => ?_) (fun _ => ?_) | refine zqS (fun _ => ?_) (fun _ => ?_) | refine zwS (fun _ => ?_) (fun _ => ?_))
        refine lq_normal' ⟨k + 1, _, rfl, by omega, by simpa using hl, hset, rfl, rfl⟩ (by omega) ?_ hsub_a
        rw [hcs]
        exact (by repeat (first | exact sub_nil | refine sub_cons rfl ?_))
      · obtain rfl : k = M := by omega
        rw [mix_n] at hds
        have hrow : RowB 3 1 (.slice (some ⟨g2, 0, none⟩) k cap2) [(g2, .cells ds.toArray 3)] k (digV (2 * V + c) k) := ⟨by rw [digV_len]; omega, .inr ⟨g2, cap2, _, rfl, rfl, hd1, by simpa using hl, by simpa using hds⟩⟩
        rcases (show dcar V c k = 0 ∨ dcar V c k = 1 by omega) with he | he
        · have hsame := len_same (c := c) hLen hV0 hc01 he
          rw [← hhalf] at hsame hrow
          repeat' (first | refine ao_nil ?_ | refine aq_nil ?_ | refine zov ?_ | refine zqv ?_ | refine zok ?_ | refine zqk ?_ | refine zon fun _ => ?_ | refine zow ?_ | refine zox ?_ | refine zoz ?_ | refine zoa fun vr lr hr => ?_ | (refine aw_is ?_; first | refine aw_seq ?_ | refine aw_block ?_ | refine aw_region ?_ | refine aw_skip ?_ | refine aw_exit ?_ | refine aw_ret ?_ | refine aw_label ?_ | refine aw_scope ?_ | refine zwt ?_ | refine zwf ?_ | refine zwd ?_) | refine zoT ?_ | refine zqT ?_ | refine zwT ?_ | refine zoF ?_ | refine zqF ?_ | refine zwF ?_ | refine zp ?_ | refine ib_exit ?_ | refine ib_other ?_ | refine zr1 ?_ | refine zr2 ?_ | refine zr3 ?_ | refine zrt ?_ | refine zrc ?_ | refine zrd ?_ | refine zoS (fun _ => ?_) (fun _ => ?_) | refine zqS (fun _ => ?_) (fun _ => ?_) | refine zwS (fun _ => ?_) (fun _ => ?_))
          exact lq_normal' (m' := p) ⟨k, _, _, by omega, by omega, hsame, hrow, rfl, rfl⟩ (by omega) (by repeat (first | exact sub_nil | refine sub_cons rfl ?_)) hsub_a
        · obtain ⟨hmore, hdig⟩ := len_more (c := c) hLen hV0 hc01 he
          rw [← hhalf] at hmore hdig hrow
          have hsz1 : 0 < k ∧ k ≤ 200 := by have := hLen.1; omega
          rw [he]
          repeat' (first | refine ao_nil ?_ | refine aq_nil ?_ | refine zov ?_ | refine zqv ?_ | refine zok ?_ | refine zqk ?_ | refine zon fun _ => ?_ | refine zow ?_ | refine zox ?_ | refine zoz ?_ | refine zoa fun vr lr hr => ?_ | (refine aw_is ?_; first | refine aw_seq ?_ | refine aw_block ?_ | refine aw_region ?_ | refine aw_skip ?_ | refine aw_exit ?_ | refine aw_ret ?_ | refine aw_label ?_ | refine aw_scope ?_ | refine zwt ?_ | refine zwf ?_ | refine zwd ?_) | refine zoT ?_ | refine zqT ?_ | refine zwT ?_ | refine zoF ?_ | refine zqF ?_ | refine zwF ?_ | refine zp ?_ | refine ib_exit ?_ | refine ib_other ?_ | refine zr1 ?_ | refine zr2 ?_ | refine zr3 ?_ | refine zrt ?_ | refine zrc ?_ | refine zrd ?_ | refine zoS (fun _ => ?_) (fun _ => ?_) | refine zqS (fun _ => ?_) (fun _ => ?_) | refine zwS (fun _ => ?_) (fun _ => ?_))
          refine lq_normal' (m' := p) ⟨k + 1, _, _, by omega, by omega, hmore, ?_, rfl, rfl⟩ (by omega) (by repeat (first | exact sub_nil | refine sub_cons rfl ?_)) hsub_a
          rw [digV_succ, hdig]
          exact hr
end Wid
end Go.Proofs.YteclgkemggmabaaDoor
