/- Figures, suffixes, and the quantities of texts: plain facts, of no program; conditions: none. -/
import Derived.Test.YthabchmfhfhcaaaQparse
namespace Go.Proofs.Ythabchmfhfhcaaa
namespace Qty
open Go Go.RowKit Sx Wid

theorem figN_app : ∀ (l s : List UInt8), (∀ c ∈ l, isFig c = true) → figN (l ++ s) = l.length + figN s
  | [], s, _ => by simp
  | c :: l, s, h => by
    have hc := h c List.mem_cons_self
    rw [List.cons_append]
    simp only [figN, hc, if_true, List.length_cons]
    rw [figN_app l s (fun d hd => h d (List.mem_cons_of_mem _ hd))]
    omega
theorem valP_app (l s : List UInt8) : ∀ (i : Nat), i ≤ l.length → valP (l ++ s) i = valP l i
  | 0, _ => rfl
  | i + 1, h => by
    have : (l ++ s)[i]? = l[i]? := List.getElem?_append_left (by omega)
    simp only [valP, this, valP_app l s i (by omega)]
theorem fb_isFig (V : Int) (i : Nat) : isFig (fb (dig V i)) = true := by
  have := fb_nat V i
  have hd := dig_rng V i
  simp only [isFig, Bool.and_eq_true, decide_eq_true_eq]
  omega
theorem figB_figs (V : Int) (L : Nat) : ∀ c ∈ figB V L, isFig c = true := fun c h => by
  simp only [figB, digL, List.mem_reverse, List.mem_map, List.mem_range] at h
  obtain ⟨d, ⟨i, -, rfl⟩, rfl⟩ := h
  exact fb_isFig V i
theorem valP_figB : ∀ (L : Nat) (V : Int), 0 ≤ V → V / 10 ^ L = 0 → valP (figB V L) L = V
  | 0, V, _, h => by
    have : V = 0 := by simpa using h
    rw [this]; rfl
  | L + 1, V, h0, h => by
    have key : V / 10 / 10 ^ L = V / 10 ^ (L + 1) := by rw [Int.pow_succ, Int.mul_comm, ← dd _ _ (by decide)]
    have ih := valP_figB L (V / 10) (by omega) (by rw [key]; exact h)
    have hg : (figB V (L + 1))[L]? = some (fb (dig V 0)) := by
      rw [figB_succ, List.getElem?_append_right (by rw [figB_len]; exact Nat.le_refl _), figB_len]; simp
    rw [valP_succ hg, fb_nat]
    have hp : valP (figB V (L + 1)) L = valP (figB (V / 10) L) L := by
      rw [figB_succ]; exact valP_app _ _ L (by rw [figB_len]; exact Nat.le_refl _)
    have h10 : dig V 0 = V % 10 := by unfold dig; simp
    rw [hp, ih, h10]
    omega
theorem figB_head {V : Int} {L : Nat} (h : IsLen V L) (hL : 1 < L) (s : List UInt8) : (figB V L ++ s)[0]? ≠ some 48 := by
  obtain ⟨K, rfl⟩ : ∃ K, L = K + 1 := ⟨L - 1, by omega⟩
  have hg : (figB V (K + 1))[0]? = some (fb (dig V K)) := by
    have hr : figB V (K + 1) = fb (dig V K) :: ((digL V K).map fb).reverse := by simp [figB, digL_succ]
    rw [hr]; rfl
  rw [List.getElem?_append_left (by rw [figB_len]; omega), hg]
  intro e
  have e1 : fb (dig V K) = 48 := by simpa using e
  have e2 := fb_nat V K
  rw [e1] at e2
  have e3 : dig V K = 0 := by
    have : ((48 : UInt8).toNat : Int) = 48 := rfl
    omega
  have h1 := h.2.2 K (by omega) (by omega)
  have h2 := h.2.1
  rw [div_ten] at h2
  unfold dig at e3
  omega
/-- Figures with a suffix: that number times the factor. -/
theorem parse_figs {V : Int} {L : Nat} (h0 : 0 ≤ V) (h : IsLen V L) {s : List UInt8} (hs : figN s = 0) (hf : 1 ≤ facI s) :
    parseQ (figB V L ++ s) = if V * facI s ≤ 9223372036854775807 then .tuple #[I (V * facI s), I 0] else .tuple #[I 0, I 3] := by
  have hn : figN (figB V L ++ s) = L := by rw [figN_app _ _ (figB_figs V L), hs, figB_len]; rfl
  have hd : (figB V L ++ s).drop L = s := by
    have := List.drop_left (l₁ := figB V L) (l₂ := s)
    rwa [figB_len] at this
  have hv : valP (figB V L ++ s) L = V := by rw [valP_app _ _ L (by rw [figB_len]; exact Nat.le_refl _), valP_figB L V h0 h.2.1]
  have hb : badQ (figB V L ++ s) = false := by
    unfold badQ
    rw [hn, hd]
    have h1 : (L == 0) = false := by have := h.1; simp; omega
    have h2 : (facI s == 0) = false := by simp; omega
    rw [h1, h2]
    by_cases hL : 1 < L
    · have := figB_head h hL s
      simp [this]
    · simp [hL]
  unfold parseQ
  rw [hb, hn, hd, hv]
  rfl
theorem sufs_all : ∀ s ∈ sufs, figN s = 0 ∧ 1000 ≤ facI s := by decide
/-- A quantity is that of its own text. -/
theorem parse_ownFrom {n : Int} (h0 : 0 < n) (h1 : n ≤ 9223372036854775807) : ∀ (l : List (List UInt8)), (∀ s ∈ l, figN s = 0 ∧ 1000 ≤ facI s) → parseQ (ownFrom n l) = .tuple #[I n, I 0]
  | [], _ => by
    have := parse_figs (Int.le_of_lt h0) (lenI_is (Int.le_of_lt h0) h1) (s := []) rfl (by decide)
    simp only [List.append_nil] at this
    rw [show ownFrom n [] = figB n (lenI n) from rfl, this]
    have hf : facI [] = 1 := rfl
    rw [hf, Int.mul_one, if_pos h1]
  | s :: l, h => by
    obtain ⟨hs, hf⟩ := h s List.mem_cons_self
    by_cases hm : n % facI s = 0
    · have hq0 : 0 ≤ n / facI s := Int.ediv_nonneg (by omega) (by omega)
      have hq1 : n / facI s ≤ 9223372036854775807 := Int.le_trans (Int.ediv_le_self _ (by omega)) h1
      have hmul : n / facI s * facI s = n := Int.ediv_mul_cancel (Int.dvd_of_emod_eq_zero hm)
      have := parse_figs hq0 (lenI_is hq0 hq1) hs (by omega)
      rw [hmul, if_pos h1] at this
      rw [show ownFrom n (s :: l) = figB (n / facI s) (lenI (n / facI s)) ++ s by unfold ownFrom; rw [if_pos hm]; rfl]
      exact this
    · rw [show ownFrom n (s :: l) = ownFrom n l by conv => { lhs; unfold ownFrom }; rw [if_neg hm]]
      exact parse_ownFrom h0 h1 l (fun d hd => h d (List.mem_cons_of_mem _ hd))
theorem parse_own {n : Int} (h0 : 0 ≤ n) (h1 : n ≤ 9223372036854775807) : parseQ (ownT n) = .tuple #[I n, I 0] := by
  by_cases hz : n = 0
  · subst hz; rfl
  · rw [show ownT n = ownFrom n sufs by unfold ownT; rw [if_neg (by omega), if_neg hz]]
    exact parse_ownFrom (by omega) h1 sufs sufs_all
theorem facI_mem {t : List UInt8} (h : facI t ≠ 0) : t = [] ∨ t ∈ sufs := by
  unfold facI at h
  (repeat' split at h) <;> simp_all [sufs]
theorem valP_lt (l : List UInt8) : ∀ (i : Nat), i ≤ figN l → valP l i < 10 ^ i
  | 0, _ => by simp [valP]
  | i + 1, h => by
    obtain ⟨c, hc, hf⟩ := figN_lt l i (by omega)
    have := fig_rng hf
    have ih := valP_lt l i (by omega)
    rw [valP_succ hc, Int.pow_succ]
    omega
/-- The own text is a number's figures, and a suffix. -/
theorem own_form (n : Int) : ∀ (l : List (List UInt8)), (∀ s ∈ l, figN s = 0 ∧ 1000 ≤ facI s) → ∃ s, ownFrom n l = figT (n / facI s) ++ s ∧ figN s = 0 ∧ 1 ≤ facI s ∧ n % facI s = 0
  | [], _ => ⟨[], by simp [ownFrom, facI], rfl, by decide, by simp [facI, Int.emod_one]⟩
  | s :: l, h => by
    obtain ⟨hs, hf⟩ := h s List.mem_cons_self
    by_cases hm : n % facI s = 0
    · exact ⟨s, by rw [show ownFrom n (s :: l) = if n % facI s = 0 then figT (n / facI s) ++ s else ownFrom n l from rfl, if_pos hm], hs, by omega, hm⟩
    · obtain ⟨u, h1, h2⟩ := own_form n l (fun d hd => h d (List.mem_cons_of_mem _ hd))
      exact ⟨u, by rw [show ownFrom n (s :: l) = if n % facI s = 0 then figT (n / facI s) ++ s else ownFrom n l from rfl, if_neg hm]; exact h1, h2⟩
/-- .. and its factor is no less than that of any suffix of the list that divides the number. -/
theorem own_great (n : Int) : ∀ (l : List (List UInt8)), l.Pairwise (fun a b => facI b ≤ facI a) → (∀ s ∈ l, figN s = 0 ∧ 1000 ≤ facI s) → ∀ t ∈ l, n % facI t = 0 → ∃ s, ownFrom n l = figT (n / facI s) ++ s ∧ figN s = 0 ∧ facI t ≤ facI s ∧ n % facI s = 0
  | [], _, _, t, ht, _ => by simp at ht
  | s :: l, hp, h, t, ht, hd => by
    obtain ⟨hs, hf⟩ := h s List.mem_cons_self
    rw [List.pairwise_cons] at hp
    by_cases hm : n % facI s = 0
    · refine ⟨s, by rw [show ownFrom n (s :: l) = if n % facI s = 0 then figT (n / facI s) ++ s else ownFrom n l from rfl, if_pos hm], hs, ?_, hm⟩
      rcases List.mem_cons.1 ht with rfl | ht
      · exact Int.le_refl _
      · exact hp.1 t ht
    · rcases List.mem_cons.1 ht with rfl | ht
      · exact absurd hd hm
      · obtain ⟨u, h1, h2⟩ := own_great n l hp.2 (fun d hd => h d (List.mem_cons_of_mem _ hd)) t ht hd
        exact ⟨u, by rw [show ownFrom n (s :: l) = if n % facI s = 0 then figT (n / facI s) ++ s else ownFrom n l from rfl, if_neg hm]; exact h1, h2⟩
theorem figT_figs (n : Int) : ∀ c ∈ figT n, isFig c = true := figB_figs n (lenI n)
/-- A number below 10^k has at most k figures. -/
theorem figT_short {q : Int} {k : Nat} (h0 : 0 ≤ q) (h1 : q ≤ 9223372036854775807) (hk : 1 ≤ k) (hlt : q < 10 ^ k) : (figT q).length ≤ k := by
  unfold figT
  rw [figB_len]
  exact len_le (lenI_is h0 h1) hk (Int.ediv_eq_zero_of_lt h0 hlt)
/-- The own text of a number times a factor has no more figures than the number. -/
theorem own_short {v : Int} {t : List UInt8} {k : Nat} (hv : 0 ≤ v) (hk : 1 ≤ k) (hlt : v < 10 ^ k) (hf : facI t ≠ 0) (hb : v * facI t ≤ 9223372036854775807) : figN (ownT (v * facI t)) ≤ k := by
  have hF := facI_rng t
  have hF1 : 1 ≤ facI t := by omega
  by_cases hz : v * facI t = 0
  · rw [hz]; exact hk
  have hpos : 0 < v * facI t := by have := Int.mul_nonneg hv (show 0 ≤ facI t by omega); omega
  have hown : ownT (v * facI t) = ownFrom (v * facI t) sufs := by unfold ownT; rw [if_neg (by omega), if_neg hz]
  obtain ⟨s, he, hs, hge, hm⟩ : ∃ s, ownFrom (v * facI t) sufs = figT (v * facI t / facI s) ++ s ∧ figN s = 0 ∧ facI t ≤ facI s ∧ (v * facI t) % facI s = 0 := by
    rcases facI_mem hf with rfl | ht
    · obtain ⟨s, h1, h2, h3, h4⟩ := own_form (v * facI []) sufs sufs_all
      exact ⟨s, h1, h2, h3, h4⟩
    · exact own_great _ sufs (by decide) sufs_all t ht (Int.mul_emod_left _ _)
  rw [hown, he, figN_app _ _ (figT_figs _), hs, Nat.add_zero]
  have hq : v * facI t / facI s ≤ v := by
    have h1 : v * facI t ≤ v * facI s := Int.mul_le_mul_of_nonneg_left hge hv
    have h2 := Int.ediv_le_ediv (c := facI s) (by omega) h1
    rwa [Int.mul_ediv_cancel _ (by omega)] at h2
  have hq0 : 0 ≤ v * facI t / facI s := Int.ediv_nonneg (by omega) (by omega)
  have hvb : v ≤ 9223372036854775807 := by
    have := Int.mul_le_mul_of_nonneg_left hF1 hv
    omega
  exact figT_short hq0 (by omega) hk (by omega)
end Qty
end Go.Proofs.Ythabchmfhfhcaaa
