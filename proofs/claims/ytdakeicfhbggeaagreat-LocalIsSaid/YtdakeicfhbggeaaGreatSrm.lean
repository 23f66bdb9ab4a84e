/- A stable sort: the steps of a merge, and of the blocks, as facts; conditions: none. -/
import Derived.Test.YtdakeicfhbggeaaGreatSxw
import Derived.Test.YtdakeicfhbggeaaGreatTy
/- Srs: A stable sort: the steps of a merge, and of the blocks, as facts; conditions: none. -/
namespace Go.Proofs.YtdakeicfhbggeaaGreat
namespace Srt
variable {α : Type} {a b c m i j k n s : Nat} {d e f : Nat → α} {lt : α → α → Prop} {x : α → Nat}
theorem Ord.ltl (tr : ∀ u v w, lt u v → lt v w → lt u w) (h : Ord lt d a b) (h1 : a ≤ i) (h2 : i ≤ j) (h3 : j < b) {y : α} (hy : lt (d j) y) : lt (d i) y := by
  rcases Nat.eq_or_lt_of_le h2 with rfl | h4
  · exact hy
  · exact tr _ _ _ (h i j h1 h4 h3) hy
theorem Ord.ltr (tr : ∀ u v w, lt u v → lt v w → lt u w) (h : Ord lt d a b) (h1 : a ≤ i) (h2 : i ≤ j) (h3 : j < b) {y : α} (hy : lt y (d i)) : lt y (d j) := by
  rcases Nat.eq_or_lt_of_le h2 with rfl | h4
  · exact hy
  · exact tr _ _ _ hy (h i j h1 h4 h3)
theorem rot_ord_lo {t : Nat} (h : Ord lt d m t) (h3 : s ≤ m) (h4 : m ≤ t) : Ord lt (rot d s m t) s (s + (t - m)) := fun i j g1 g2 g3 => by
  rw [rot_lo (by omega) (by omega) h3 h4, rot_lo (by omega) (by omega) h3 h4]
  exact h _ _ (by omega) (by omega) (by omega)
theorem rot_ord_hi {t : Nat} (h : Ord lt d s m) (h4 : m ≤ t) : Ord lt (rot d s m t) (s + (t - m)) t := fun i j g1 g2 g3 => by
  rw [rot_hi (by omega) (by omega), rot_hi (by omega) (by omega)]
  exact h _ _ (by omega) (by omega) (by omega)
theorem ord_out {t : Nat} (h : Ord lt d i j) (hij : j ≤ s ∨ t ≤ i) : Ord lt (rot d s m t) i j := h.congr fun k h1 h2 => rot_out (by omega)
theorem sym_step (tr : ∀ u v w, lt u v → lt v w → lt u w) {t mid : Nat} (h1 : Ord lt d a m) (h2 : Ord lt d m b) (hx : Came x d a m b) (hs : a ≤ s) (hsm : s ≤ m) (hmt : m ≤ t) (htb : t ≤ b) (hmid : s + (t - m) = mid)
    (g1 : s = a ∨ t = b ∨ lt (d (s - 1)) (d t)) (g2 : s = m ∨ t = m ∨ lt (d (t - 1)) (d s)) :
    (Ord lt (rot d s m t) a s ∧ Ord lt (rot d s m t) s mid ∧ Came x (rot d s m t) a s mid) ∧ (Ord lt (rot d s m t) mid t ∧ Ord lt (rot d s m t) t b ∧ Came x (rot d s m t) mid t b) ∧
    ∀ i j, a ≤ i → i < mid → mid ≤ j → j < b → lt (rot d s m t i) (rot d s m t j) := by
  subst hmid
  refine ⟨⟨ord_out (h1.sub (Nat.le_refl _) hsm) (.inl (Nat.le_refl _)), rot_ord_lo (h2.sub (Nat.le_refl _) htb) hsm hmt, fun i j c1 c2 c3 c4 => ?_⟩, ⟨rot_ord_hi (h1.sub hs (Nat.le_refl _)) hmt, ord_out (h2.sub hmt (Nat.le_refl _)) (.inr (Nat.le_refl _)), fun i j c1 c2 c3 c4 => ?_⟩, fun i j c1 c2 c3 c4 => ?_⟩
  · rw [rot_out (by omega), rot_lo (by omega) (by omega) hsm hmt]
    exact hx _ _ (by omega) (by omega) (by omega) (by omega)
  · rw [rot_hi (by omega) (by omega), rot_out (by omega)]
    exact hx _ _ (by omega) (by omega) (by omega) (by omega)
  · by_cases hi : i < s
    · rw [rot_out (k := i) (by omega)]
      by_cases hj : j < t
      · rw [rot_hi (by omega) (by omega)]
        exact h1 _ _ (by omega) (by omega) (by omega)
      · rw [rot_out (by omega)]
        rcases g1 with g | g | g
        · omega
        · omega
        · exact h1.ltl tr (by omega) (show i ≤ s - 1 by omega) (by omega) (h2.ltr tr (by omega) (by omega) (by omega) g)
    · rw [rot_lo (k := i) (by omega) (by omega) hsm hmt]
      by_cases hj : j < t
      · rw [rot_hi (by omega) (by omega)]
        rcases g2 with g | g | g
        · omega
        · omega
        · exact h2.ltl tr (by omega) (show i + (m - s) ≤ t - 1 by omega) (by omega) (h1.ltr tr (by omega) (by omega) (by omega) g)
      · rw [rot_out (by omega)]
        exact h2 _ _ (by omega) (by omega) (by omega)
theorem rot_none_l {t : Nat} : rot d m m t = d := by
  funext k
  by_cases h : k < m ∨ t ≤ k
  · exact rot_out h
  · rw [rot_lo (by omega) (by omega) (by omega) (by omega)]; congr 1; omega
theorem rot_none_r : rot d s m m = d := by
  funext k
  by_cases h : k < s ∨ m ≤ k
  · exact rot_out h
  · rw [rot_hi (by omega) (by omega)]; congr 1; omega
theorem dvd_step (h1 : s ∣ c) (h2 : s ∣ a) (h : c < a) : c + s ≤ a := by
  have h3 := Nat.le_of_dvd (by omega) (Nat.dvd_sub h2 h1)
  omega
theorem Came.keep (h : Came x d 0 c n) (g : Mv a b d e) (hc : c ≤ a ∨ b ≤ c) (hb : b ≤ n) : Came x e 0 c n := by
  rcases hc with hc | hc
  · exact h.hi (g.mono hc hb)
  · exact h.lo (g.mono (Nat.zero_le _) hc)
theorem Ord.keep (h : Ord lt d i j) (g : Mv a b d e) (hc : j ≤ a ∨ b ≤ i) : Ord lt e i j := h.congr fun k h1 h2 => g.out (by omega)
def Lay (lt : α → α → Prop) (x : α → Nat) (d : Nat → α) (n s : Nat) : Prop := ∀ c, s ∣ c → Came x d 0 c n ∧ Ord lt d c (min (c + s) n)
def LayA (lt : α → α → Prop) (x : α → Nat) (d : Nat → α) (n s a : Nat) : Prop :=
  s ∣ a ∧ a ≤ n ∧ (∀ c, s ∣ c → Came x d 0 c n) ∧ (∀ c, s ∣ c → c < a → Ord lt d c (c + s)) ∧ ∀ i j, a ≤ i → i < j → j < n → x (d i) < x (d j)
theorem LayA.start (h : ∀ i j, i < j → j < n → x (d i) < x (d j)) : LayA lt x d n s 0 := ⟨Nat.dvd_zero _, Nat.zero_le _, fun c _ i j h1 h2 h3 h4 => h i j (by omega) h4, fun c _ h => by omega, fun i j _ h1 h2 => h i j h1 h2⟩
theorem LayA.step (h : LayA lt x d n s a) (hb : a + s ≤ n) (g : Mv a (a + s) d e) (ho : Ord lt e a (a + s)) : LayA lt x e n s (a + s) := by
  obtain ⟨h1, h2, h3, h4, h5⟩ := h
  refine ⟨Nat.dvd_add h1 (Nat.dvd_refl _), hb, fun c hc => ?_, fun c hc hlt => ?_, fun i j c1 c2 c3 => ?_⟩
  · refine (h3 c hc).keep g ?_ hb
    by_cases hca : c ≤ a
    · exact .inl hca
    · exact .inr (dvd_step h1 hc (by omega))
  · by_cases hca : c < a
    · exact (h4 c hc hca).keep g (.inl (dvd_step hc h1 hca))
    · have : c + s ≤ a + s := dvd_step hc (Nat.dvd_add h1 (Nat.dvd_refl _)) hlt
      obtain rfl : c = a := by omega
      exact ho
  · rw [g.out (by omega), g.out (by omega)]
    exact h5 i j (by omega) c2 c3
theorem LayA.done (h : LayA lt x d n s a) (hb : n < a + s) (g : Mv a n d e) (ho : Ord lt e a n) : Lay lt x e n s := by
  obtain ⟨h1, h2, h3, h4, h5⟩ := h
  intro c hc
  by_cases hca : c < a
  · have := dvd_step hc h1 hca
    exact ⟨(h3 c hc).keep g (.inl (by omega)) (Nat.le_refl _), by rw [Nat.min_eq_left (by omega)]; exact (h4 c hc hca).keep g (.inl this)⟩
  · by_cases hce : c = a
    · subst hce
      exact ⟨(h3 c hc).keep g (.inl (Nat.le_refl _)) (Nat.le_refl _), by rw [Nat.min_eq_right (by omega)]; exact ho⟩
    · have := dvd_step h1 hc (by omega)
      exact ⟨fun i j c1 c2 c3 c4 => by omega, .nil (by omega)⟩
def LayB (lt : α → α → Prop) (x : α → Nat) (d : Nat → α) (n s a : Nat) : Prop :=
  2 * s ∣ a ∧ a ≤ n ∧ (∀ c, s ∣ c → (2 * s ∣ c ∨ a ≤ c) → Came x d 0 c n) ∧ (∀ c, 2 * s ∣ c → c < a → Ord lt d c (c + 2 * s)) ∧ ∀ c, s ∣ c → a ≤ c → Ord lt d c (min (c + s) n)
theorem LayB.start (h : Lay lt x d n s) : LayB lt x d n s 0 := ⟨Nat.dvd_zero _, Nat.zero_le _, fun c hc _ => (h c hc).1, fun c _ h => by omega, fun c hc _ => (h c hc).2⟩
theorem dvd_two (h : 2 * s ∣ a) : s ∣ a := Nat.dvd_trans (Nat.dvd_mul_left _ _) h
theorem LayB.ready (h : LayB lt x d n s a) (hb : b ≤ n) (h2 : b ≤ a + 2 * s) (hm : a + s < b) : Ord lt d a (a + s) ∧ Ord lt d (a + s) b ∧ Came x d a (a + s) b := by
  obtain ⟨g1, g2, g3, g4, g5⟩ := h
  have hd := dvd_two g1
  have hd2 := Nat.dvd_add hd (Nat.dvd_refl s)
  have o1 := g5 a hd (Nat.le_refl _)
  have o2 := g5 (a + s) hd2 (by omega)
  rw [Nat.min_eq_left (by omega)] at o1
  refine ⟨o1, ?_, (g3 _ hd2 (.inr (by omega))).sub (Nat.zero_le _) hb⟩
  exact o2.sub (Nat.le_refl _) (by omega)
theorem LayB.step (h : LayB lt x d n s a) (hb : a + 2 * s ≤ n) (g : Mv a (a + 2 * s) d e) (ho : Ord lt e a (a + 2 * s)) : LayB lt x e n s (a + 2 * s) := by
  obtain ⟨h1, h2, h3, h4, h5⟩ := h
  refine ⟨Nat.dvd_add h1 (Nat.dvd_refl _), hb, fun c hc hor => ?_, fun c hc hlt => ?_, fun c hc hle => ?_⟩
  · by_cases hca : c ≤ a
    · exact (h3 c hc (hor.imp id fun h => by omega)).keep g (.inl hca) hb
    · refine (h3 c hc (.inr (by omega))).keep g (.inr ?_) hb
      rcases hor with h | h
      · exact dvd_step h1 h (by omega)
      · exact h
  · by_cases hca : c < a
    · exact (h4 c hc hca).keep g (.inl (dvd_step hc h1 hca))
    · have : c + 2 * s ≤ a + 2 * s := dvd_step hc (Nat.dvd_add h1 (Nat.dvd_refl _)) hlt
      obtain rfl : c = a := by omega
      exact ho
  · exact (h5 c hc (by omega)).keep g (.inr hle)
theorem LayB.done (h : LayB lt x d n s a) (hb : n < a + 2 * s) (g : Mv a n d e) (ho : Ord lt e a n) : Lay lt x e n (2 * s) := by
  obtain ⟨h1, h2, h3, h4, h5⟩ := h
  intro c hc
  have hcm := h3 c (dvd_two hc) (.inl hc)
  by_cases hca : c < a
  · have := dvd_step hc h1 hca
    exact ⟨hcm.keep g (.inl (by omega)) (Nat.le_refl _), by rw [Nat.min_eq_left (by omega)]; exact (h4 c hc hca).keep g (.inl this)⟩
  · by_cases hce : c = a
    · subst hce
      exact ⟨hcm.keep g (.inl (Nat.le_refl _)) (Nat.le_refl _), by rw [Nat.min_eq_right (by omega)]; exact ho⟩
    · have := dvd_step h1 hc (by omega)
      exact ⟨fun i j c1 c2 c3 c4 => by omega, .nil (by omega)⟩
theorem LayB.last (h : LayB lt x d n s a) (hb : n ≤ a + s) : Ord lt d a n := by
  have := h.2.2.2.2 a (dvd_two h.1) (Nat.le_refl _)
  rwa [Nat.min_eq_right hb] at this
theorem Lay.all (h : Lay lt x d n s) (hs : n ≤ s) : Ord lt d 0 n := by
  have := (h 0 (Nat.dvd_zero _)).2
  rwa [Nat.zero_add, Nat.min_eq_right hs] at this
theorem ord_unique (ir : ∀ u, ¬ lt u u) (tr : ∀ u v w, lt u v → lt v w → lt u w) : ∀ {l k : List α}, l.Pairwise lt → k.Pairwise lt → (∀ y, y ∈ l ↔ y ∈ k) → l = k
  | [], [], _, _, _ => rfl
  | [], y :: k, _, _, h => absurd ((h y).2 List.mem_cons_self) List.not_mem_nil
  | y :: l, [], _, _, h => absurd ((h y).1 List.mem_cons_self) List.not_mem_nil
  | y :: l, z :: k, h1, h2, h => by
    rw [List.pairwise_cons] at h1 h2
    have e : y = z := by
      rcases List.mem_cons.1 ((h y).1 List.mem_cons_self) with g1 | g1
      · exact g1
      rcases List.mem_cons.1 ((h z).2 List.mem_cons_self) with g2 | g2
      · exact g2.symm
      exact absurd (tr _ _ _ (h1.1 z g2) (h2.1 y g1)) (ir y)
    subst e
    rw [ord_unique ir tr h1.2 h2.2 fun u => ?_]
    constructor
    · intro hu
      rcases List.mem_cons.1 ((h u).1 (List.mem_cons_of_mem _ hu)) with rfl | g
      · exact absurd (h1.1 u hu) (ir u)
      · exact g
    · intro hu
      rcases List.mem_cons.1 ((h u).2 (List.mem_cons_of_mem _ hu)) with rfl | g
      · exact absurd (h2.1 u hu) (ir u)
      · exact g
theorem Ord.pair (h : Ord lt d 0 n) : ((List.range n).map d).Pairwise lt := by
  rw [List.pairwise_map]
  rw [List.pairwise_iff_getElem]
  intro i j hi hj hij
  simp only [List.length_range] at hi hj
  rw [List.getElem_range, List.getElem_range]
  exact h i j (Nat.zero_le _) hij hj
theorem Mv.mem (h : Mv 0 n d e) {y : α} : y ∈ (List.range n).map e ↔ y ∈ (List.range n).map d := by
  have key : ∀ {d e : Nat → α}, Mv 0 n d e → y ∈ (List.range n).map e → y ∈ (List.range n).map d := fun h hy => by
    obtain ⟨k, hk, rfl⟩ := List.mem_map.1 hy
    obtain ⟨j, -, h2, h3⟩ := h.to (Nat.zero_le _) (List.mem_range.1 hk)
    exact List.mem_map.2 ⟨j, List.mem_range.2 h2, h3.symm⟩
  exact ⟨key h, key h.symm⟩
end Srt
end Go.Proofs.YtdakeicfhbggeaaGreat
/- Srw: Contracts of the library's stable sort over objects: swaps of ranges, rotations; conditions: rows of at most 1,000,000 elements. -/
namespace Go.Proofs.YtdakeicfhbggeaaGreat
namespace Srw
open Go Go.RowKit Sx Srt
attribute [local irreducible] Go.Calls
variable {α : Type} {f : α → List Value}
abbrev RO (f : α → List Value) (g n : Nat) (d : Nat → α) : Nat × Obj := (g, .cells (rowL f n d).toArray 61 (0, 0))
abbrev SV (g n : Nat) : Value := .slice (some ⟨g, 0, none⟩) n n
abbrev FV (c : FuncId) : Value := .func (.func c) #[] #[]
set_option maxHeartbeats 8000000 in
theorem swr_ok (hf : ∀ x, (f x).length = 8) (hfl : ∀ x, (f x).all flat = true) (c : FuncId) {B m : Nat} {w0 : World} (g n a b k : Nat) (za zb : Int) (hza : za = a) (hzb : zb = b) (d : Nat → α) (h1 : a + k ≤ b) (h2 : b + k ≤ n) (hn : n ≤ 1000000) :
    CallsF Tryz.prog ⟨B, w0, m⟩ 187 [SV g n, I za, I zb, I k, FV c] [RO f g n d] (.tuple #[]) [RO f g n (swr d a b k)] := by
  subst hza hzb
  refine callsF0 Tryz.func187 rfl rfl rfl rfl fun R => ?_
  repeat' (first | refine aw_seq ?_ | refine zz ?_ | refine zon fun _ => ?_ | refine zoa fun vr lr hr => ?_ | refine zoS (fun _ => ?_) (fun _ => ?_) | refine zqS (fun _ => ?_) (fun _ => ?_) | refine zwS (fun _ => ?_) (fun _ => ?_))
  refine aw_for (t0 := [(0, SV g n), (1, I a), (2, I b), (3, I k), (10, I (0 : Nat))]) (fun q t H => ∃ i : Nat, q = k - i ∧ i ≤ k ∧ t = [(0, SV g n), (1, I a), (2, I b), (3, I k), (10, I i)] ∧ H = RO f g n (swr d a b i) :: R) ⟨0, rfl, by omega, rfl, by rw [swr_zero]; rfl⟩ (by repeat (first | exact sub_nil | refine sub_cons rfl ?_)) ?_
  rintro q t H ⟨i, rfl, hi, rfl, rfl⟩
  by_cases hlt : i < k
  · have s1 := rowL_sl (f := f) (n := n) hf (by omega) (d := swr d a b i) (i := a + i) (by omega) (z := (a : Int) + (i : Int)) (by omega)
    have s2 := rowL_sl (f := f) (n := n) hf (by omega) (d := swr d a b i) (i := b + i) (by omega) (z := (b : Int) + (i : Int)) (by omega)
    repeat' (first | (apply ao_nilh; exact hsub_a) | apply ao_nil | apply aq_nil | apply ah_end | ((first | apply ao_val | apply aq_val | (apply ah_take; (exact rfl))); exact wants_a; exact ov_a; (exact rfl)) | ((first | apply ao_skip | apply aq_skip | (apply ah_skip; (exact rfl))); exact nots_a; (exact rfl)) | (refine ao_is ?_; first | (apply ao_new; exact wants_a; exact on_a; (exact rfl); intro _) | (apply ao_store; exact wants_a; exact ow_a; exact upd_a) | (apply ao_valw; exact wants_a; exact ox_a; (exact rfl); exact upd_a) | (apply ao_skip0; exact nots_a) | (apply ao_append; exact wants_a; (exact rfl); assumption; (exact rfl); exact cut_a; exact has_a; (exact rfl); (exact rfl); omega; omega; omega; (exact rfl); intro vr lr hr)) | ((refine ao_is ?_; apply ao_store; exact wants_a; (apply ow_storeR hf hfl (i := a + i); (exact rfl); omega; (exact rfl); exact has_a; omega); exact upd_a)) | ((refine ao_is ?_; apply ao_store; exact wants_a; (apply ow_storeR hf hfl (i := b + i); (exact rfl); omega; (exact rfl); exact has_a; omega); exact upd_a)) | (apply ah_one; (exact rfl)) | (apply ah_two; (exact rfl); (exact rfl)) | (apply ah_three; (exact rfl); (exact rfl); (exact rfl)) | (refine aw_is ?_; first | (apply aw_held (id := 3) (pl := (.t 0 (.t 1 (.t 2 (.t 3 (.t 4 (.t 5 (.t 6 (.t 7 (.t 8 (.t 9 (.t 10 (.t 11 (.t 12 (.t 14 (.t 15 (.t 16 (.t 17 (.t 18 (.w 13 (.o 19 (.t 20 (.o 21 (.t 22 (.o 23 .e))))) 19 (.o 13 (.t 20 (.o 21 (.t 22 (.o 23 .e))))))))))))))))))))))))); (kernel_rfl); (kernel_rfl); (kernel_rfl); (solve | (apply hs_skip; exact List.Sublist.refl _))) | refine aw_seq ?_ | refine aw_block ?_ | refine aw_region ?_ | refine aw_skip ?_ | refine aw_exit ?_ | refine aw_ret ?_ | refine aw_label ?_ | refine aw_scope ?_ | refine aw_cond_t rfl (by with_reducible rfl) ?_ | refine aw_cond_f rfl (by with_reducible rfl) ?_ | refine aw_draw (by kernel_rfl) (by kernel_rfl) ?_) | (first | (refine ah_is ?_; (fail_if_success first | refine ah_glit (b := true) rfl rfl rfl (by with_reducible rfl) ?_ | refine ah_glit (b := false) rfl rfl rfl (by with_reducible rfl) ?_); apply ah_gt; (exact rfl); (exact rfl); (exact rfl); exact t_a) | ((refine ao_is ?_; (fail_if_success first | refine ao_glit (b := true) rfl rfl (by with_reducible rfl) ?_ | refine ao_glit (b := false) rfl rfl (by with_reducible rfl) ?_)); apply ao_gt; (exact rfl); (exact rfl); exact t_a) | ((refine aq_is ?_; (fail_if_success first | refine aq_glit (b := true) rfl rfl (by with_reducible rfl) ?_ | refine aq_glit (b := false) rfl rfl (by with_reducible rfl) ?_)); apply aq_gt; (exact rfl); (exact rfl); exact t_a) | (apply aw_ct; (exact rfl); exact t_a)) | (first | (refine ah_is ?_; (fail_if_success first | refine ah_glit (b := true) rfl rfl rfl (by with_reducible rfl) ?_ | refine ah_glit (b := false) rfl rfl rfl (by with_reducible rfl) ?_); apply ah_gf; (exact rfl); (exact rfl); (exact rfl); exact f_a) | ((refine ao_is ?_; (fail_if_success first | refine ao_glit (b := true) rfl rfl (by with_reducible rfl) ?_ | refine ao_glit (b := false) rfl rfl (by with_reducible rfl) ?_)); apply ao_gf; (exact rfl); (exact rfl); exact f_a) | ((refine aq_is ?_; (fail_if_success first | refine aq_glit (b := true) rfl rfl (by with_reducible rfl) ?_ | refine aq_glit (b := false) rfl rfl (by with_reducible rfl) ?_)); apply aq_gf; (exact rfl); (exact rfl); exact f_a) | (apply aw_cf; (exact rfl); exact f_a)) | refine at_normal ?_ | refine at_exit ?_ | refine at_ret ?_ | refine ib_normal ?_ | refine ib_exit ?_ | refine ib_other ?_ | refine ib_ret ?_ | refine lq_exit ?_ | refine lq_ret ?_ | refine ci_ret ?_ | refine ci_exit ?_ | refine r1_ret rfl ?_ | refine r1_normal rfl ?_ | refine r2_ret rfl rfl ?_ | refine r2_normal rfl rfl ?_ | refine r3_ret rfl rfl rfl ?_ | refine r3_normal rfl rfl rfl ?_ | refine ng_normal ?_ | refine ng_exit ?_ | refine ng_ret ?_ | (apply rt_ret; (exact rfl); (exact rfl); (exact rfl); exact has_a; exact has_a; (exact rfl); (exact rfl)) | (apply rc1_ret; (exact rfl); exact has_a; (exact rfl)) | (apply rc2_ret; (exact rfl); exact has_a; (exact rfl); (exact rfl)) | (refine ao_is ?_; (fail_if_success first | refine ao_glit (b := true) rfl rfl (by with_reducible rfl) ?_ | refine ao_glit (b := false) rfl rfl (by with_reducible rfl) ?_); refine ao_gbool rfl rfl (fun _ => ?_) (fun _ => ?_)) | (refine aq_is ?_; (fail_if_success first | refine aq_glit (b := true) rfl rfl (by with_reducible rfl) ?_ | refine aq_glit (b := false) rfl rfl (by with_reducible rfl) ?_); refine aq_gbool rfl rfl (fun _ => ?_) (fun _ => ?_)) | (refine aw_is ?_; refine aw_cond rfl (fun _ => ?_) (fun _ => ?_)))
    all_goals
      rw [upd_swp, swr_one (by omega)]
      exact lq_normal' ⟨i + 1, rfl, by omega, rfl, rfl⟩ (by omega) (by repeat (first | exact sub_nil | refine sub_cons rfl ?_)) (List.Sublist.refl _)
  · obtain rfl : i = k := by omega
    repeat' (first | refine aw_seq ?_ | refine zz ?_ | refine zon fun _ => ?_ | refine zoa fun vr lr hr => ?_ | refine zoS (fun _ => ?_) (fun _ => ?_) | refine zqS (fun _ => ?_) (fun _ => ?_) | refine zwS (fun _ => ?_) (fun _ => ?_))
    all_goals exact List.Sublist.refl _
set_option maxHeartbeats 8000000 in
theorem rot_ok (hf : ∀ x, (f x).length = 8) (hfl : ∀ x, (f x).all flat = true) (c : FuncId) {B mm : Nat} {w0 : World} (g n a m b : Nat) (zb : Int) (hzb : zb = b) (d : Nat → α) (h1 : a < m) (h2 : m < b) (h3 : b ≤ n) (hn : n ≤ 1000000) :
    CallsF Tryz.prog ⟨B, w0, mm⟩ 180 [SV g n, I a, I m, I zb, FV c] [RO f g n d] (.tuple #[]) [RO f g n (rot d a m b)] := by
  subst hzb
  refine callsF0 Tryz.func180 rfl rfl rfl rfl fun R => ?_
  repeat' (first | refine aw_seq ?_ | refine zz ?_ | refine zon fun _ => ?_ | refine zoa fun vr lr hr => ?_ | refine zoS (fun _ => ?_) (fun _ => ?_) | refine zqS (fun _ => ?_) (fun _ => ?_) | refine zwS (fun _ => ?_) (fun _ => ?_))
  rw [show ((m : Int) - (a : Int)) = ((m - a : Nat) : Int) by omega, show ((b : Int) - (m : Int)) = ((b - m : Nat) : Int) by omega]
  refine aw_for (t0 := [(0, SV g n), (2, I m), (4, FV c), (10, I (m - a : Nat)), (11, I (b - m : Nat))]) (fun q t H => ∃ (i j : Nat) (e : Nat → α), q = i + j ∧ 0 < i ∧ 0 < j ∧ i ≤ m ∧ m + j ≤ n ∧ rot e (m - i) m (m + j) = rot d a m b ∧ t = [(0, SV g n), (2, I m), (4, FV c), (10, I i), (11, I j)] ∧ H = RO f g n e :: R)
    ⟨m - a, b - m, d, rfl, by omega, by omega, by omega, by omega, by rw [show m - (m - a) = a by omega, show m + (b - m) = b by omega], rfl, rfl⟩ (by repeat (first | exact sub_nil | refine sub_cons rfl ?_)) ?_
  rintro q t H ⟨i, j, e, rfl, hi0, hj0, hi, hj, hrot, rfl, rfl⟩
  by_cases hij : i = j
  · subst hij
    repeat' (first | refine aw_seq ?_ | refine zz ?_ | refine zon fun _ => ?_ | refine zoa fun vr lr hr => ?_ | (apply ao_callF; exact wants_a; (first | exact oc_func rfl | exact oc_clos rfl rfl | exact oc_bnd rfl rfl); (exact rfl); (first | exact swr_ok hf hfl c g n (m - i) m i _ _ (by omega) rfl e (by omega) hj hn); exact cuts_a; intro _ hH; simp only [List.cons_append, List.nil_append] at hH; subst hH) | refine zoS (fun _ => ?_) (fun _ => ?_) | refine zqS (fun _ => ?_) (fun _ => ?_) | refine zwS (fun _ => ?_) (fun _ => ?_))
    all_goals
      rw [rot_same hi, hrot]
      exact List.Sublist.refl _
  · by_cases hlt : j < i
    · repeat' (first | refine aw_seq ?_ | refine zz ?_ | refine zon fun _ => ?_ | refine zoa fun vr lr hr => ?_ | (apply ao_callF; exact wants_a; (first | exact oc_func rfl | exact oc_clos rfl rfl | exact oc_bnd rfl rfl); (exact rfl); (first | exact swr_ok hf hfl c g n (m - i) m j _ _ (by omega) rfl e (by omega) hj hn); exact cuts_a; intro _ hH; simp only [List.cons_append, List.nil_append] at hH; subst hH) | refine zoS (fun _ => ?_) (fun _ => ?_) | refine zqS (fun _ => ?_) (fun _ => ?_) | refine zwS (fun _ => ?_) (fun _ => ?_))
      all_goals
        rw [show ((i : Int) - (j : Int)) = ((i - j : Nat) : Int) by omega]
        exact lq_normal' ⟨i - j, j, _, rfl, by omega, hj0, by omega, hj, (rot_left hlt hi).trans hrot, rfl, rfl⟩ (by omega) (by repeat (first | exact sub_nil | refine sub_cons rfl ?_)) (List.Sublist.refl _)
    · repeat' (first | refine aw_seq ?_ | refine zz ?_ | refine zon fun _ => ?_ | refine zoa fun vr lr hr => ?_ | (apply ao_callF; exact wants_a; (first | exact oc_func rfl | exact oc_clos rfl rfl | exact oc_bnd rfl rfl); (exact rfl); (first | exact swr_ok hf hfl c g n (m - i) (m + j - i) i _ _ (by omega) (by omega) e (by omega) (by omega) hn); exact cuts_a; intro _ hH; simp only [List.cons_append, List.nil_append] at hH; subst hH) | refine zoS (fun _ => ?_) (fun _ => ?_) | refine zqS (fun _ => ?_) (fun _ => ?_) | refine zwS (fun _ => ?_) (fun _ => ?_))
      all_goals
        rw [show ((j : Int) - (i : Int)) = ((j - i : Nat) : Int) by omega]
        exact lq_normal' ⟨i, j - i, _, rfl, hi0, by omega, hi, by omega, (rot_right (by omega) hi).trans hrot, rfl, rfl⟩ (by omega) (by repeat (first | exact sub_nil | refine sub_cons rfl ?_)) (List.Sublist.refl _)
end Srw
end Go.Proofs.YtdakeicfhbggeaaGreat
/- Srm: Contracts of the library's stable sort over objects: the sort by insertion, the merge; conditions: rows of at most 1,000,000 elements. -/
namespace Go.Proofs.YtdakeicfhbggeaaGreat
namespace Srw
open Go Go.RowKit Sx Srt
attribute [local irreducible] Go.Calls
variable {α : Type} {f : α → List Value}
structure Cmp (f : α → List Value) (c : FuncId) (lt : α → α → Prop) (x : α → Nat) (cmp : α → α → Int) : Prop where
  len : ∀ u, (f u).length = 8
  flat : ∀ u, (f u).all flat = true
  less : ∀ u v, x u < x v → decide (cmp v u < 0) = true → lt v u
  more : ∀ u v, x u < x v → decide (cmp v u < 0) = false → lt u v
  trans : ∀ u v w, lt u v → lt v w → lt u w
  call : ∀ u v w, Calls Tryz.prog c #[.agg (f u).toArray, .agg (f v).toArray] w fun e w' => e = .returned (I (cmp u v)) ∧ Below w.heap.size w w'
def SortedTo (lt : α → α → Prop) (f : α → List Value) (g n a b : Nat) (d : Nat → α) (R : Hp) : Value → Hp → Prop := fun u H' => u = .tuple #[] ∧ ∃ e, Mv a b d e ∧ Ord lt e a b ∧ H' = RO f g n e :: R
set_option maxHeartbeats 16000000 in
theorem ins_ok {c : FuncId} [FnB Tryz.prog c] {lt : α → α → Prop} {x : α → Nat} {cmp : α → α → Int} (hC : Cmp f c lt x cmp) {B mm : Nat} {w0 : World} (g n a b : Nat) (za zb : Int) (hza : za = a) (hzb : zb = b) (d : Nat → α) (hab : a ≤ b) (hb : b ≤ n) (hn : n ≤ 1000000)
    (hx : ∀ i j, a ≤ i → i < j → j < b → x (d i) < x (d j)) (R : Hp) :
    CallsH Tryz.prog ⟨B, w0, mm⟩ 157 [SV g n, I za, I zb, FV c] ([RO f g n d] ++ R) (SortedTo lt f g n a b d R) := by
  subst hza hzb
  refine callsH0 (K := fun H' => ∃ e, Mv a b d e ∧ Ord lt e a b ∧ H' = RO f g n e :: R) Tryz.func157 rfl rfl rfl rfl ?_
  repeat' (first | refine aw_seq ?_ | refine zz ?_ | refine zon fun _ => ?_ | refine zoa fun vr lr hr => ?_ | refine zoS (fun _ => ?_) (fun _ => ?_) | refine zqS (fun _ => ?_) (fun _ => ?_) | refine zwS (fun _ => ?_) (fun _ => ?_))
  rw [show ((a : Int) + 1) = ((a + 1 : Nat) : Int) by omega]
  refine aw_for (t0 := [(0, SV g n), (1, I a), (2, I b), (3, FV c), (8, I (a + 1 : Nat))]) (fun q t H => ∃ (i : Nat) (e : Nat → α), q = b - i ∧ a + 1 ≤ i ∧ i ≤ max b (a + 1) ∧ Mv a (min i b) d e ∧ Ord lt e a i ∧ t = [(0, SV g n), (1, I a), (2, I b), (3, FV c), (8, I i)] ∧ H = RO f g n e :: R)
    ⟨a + 1, d, rfl, by omega, by omega, .refl, .one, rfl, rfl⟩ (by repeat (first | exact sub_nil | refine sub_cons rfl ?_)) ?_
  rintro q t H ⟨i, e, rfl, hai, hib, hmv, hord, rfl, rfl⟩
  by_cases hlt : i < b
  · rw [Nat.min_eq_left (by omega)] at hmv
    have hcame : ∀ k, a ≤ k → k < i → x (e k) < x (e i) := fun k h1 h2 => by
      obtain ⟨j, g1, g2, g3⟩ := hmv.to h1 h2
      rw [g3, hmv.out (.inr (Nat.le_refl _))]
      exact hx j i g1 g2 hlt
    repeat' (first | refine aw_seq ?_ | refine zz ?_ | refine zon fun _ => ?_ | refine zoa fun vr lr hr => ?_ | refine zoS (fun _ => ?_) (fun _ => ?_) | refine zqS (fun _ => ?_) (fun _ => ?_) | refine zwS (fun _ => ?_) (fun _ => ?_))
    refine aw_for (t0 := [(0, SV g n), (1, I a), (2, I b), (3, FV c), (8, I i), (9, I i)]) (fun q t H => ∃ j : Nat, q = j + 1 ∧ a ≤ j ∧ j ≤ i ∧ (∀ k, j ≤ k → k < i → lt (e i) (e k)) ∧ t = [(0, SV g n), (1, I a), (2, I b), (3, FV c), (8, I i), (9, I j)] ∧ H = RO f g n (rot e j i (i + 1)) :: R)
      ⟨i, rfl, by omega, by omega, fun k h1 h2 => by omega, rfl, by rw [down_none]⟩ (by repeat (first | exact sub_nil | refine sub_cons rfl ?_)) ?_
    rintro q t H ⟨j, rfl, haj, hji, hall, rfl, rfl⟩
    have fin : (∀ k, a ≤ k → k < j → lt (e k) (e i)) → Mv a (min (i + 1) b) d (rot e j i (i + 1)) ∧ Ord lt (rot e j i (i + 1)) a (i + 1) := fun h => by
      rw [Nat.min_eq_left (by omega)]
      exact ⟨(hmv.mono (Nat.le_refl _) (by omega)).trans ((rot_mv hji (by omega)).mono haj (Nat.le_refl _)), hord.down haj hji h hall⟩
    by_cases hj : a < j
    · have s1 : sl (0 + ((j : Int)).toNat * 8) 8 (rowL f n (rot e j i (i + 1))) = some (f (e i)) := by
        rw [rowL_sl hC.len (by omega) (i := j) (by omega) rfl, rot_lo (by omega) (by omega) hji (by omega), show j + (i - j) = i by omega]
      have s2 : sl (0 + ((j : Int) - 1).toNat * 8) 8 (rowL f n (rot e j i (i + 1))) = some (f (e (j - 1))) := by
        rw [rowL_sl hC.len (by omega) (i := j - 1) (by omega) (by omega), rot_out (by omega)]
      have hcl := fun w => hC.call (e i) (e (j - 1)) w
      cases hc : decide (cmp (e i) (e (j - 1)) < 0)
      · have hm := hC.more _ _ (hcame (j - 1) (by omega) (by omega)) hc
        obtain ⟨f1, f2⟩ := fin fun k h1 h2 => hord.ltl hC.trans h1 (show k ≤ j - 1 by omega) (by omega) hm
        repeat' (first | refine aw_seq ?_ | refine zz ?_ | refine zon fun _ => ?_ | refine zoa fun vr lr hr => ?_ | ((first | apply ao_call | apply aq_call); exact wants_a; (first | exact oc_func rfl | exact oc_clos rfl rfl | exact oc_bnd rfl rfl); (exact rfl); (first | exact fun w hw => hcl w)) | refine zoS (fun _ => ?_) (fun _ => ?_) | refine zqS (fun _ => ?_) (fun _ => ?_) | refine zwS (fun _ => ?_) (fun _ => ?_))
        rw [show ((i : Int) + 1) = ((i + 1 : Nat) : Int) by omega]
        exact lq_normal' ⟨i + 1, _, rfl, by omega, by omega, f1, f2, rfl, rfl⟩ (by omega) (by repeat (first | exact sub_nil | refine sub_cons rfl ?_)) (List.Sublist.refl _)
      · have hm := hC.less _ _ (hcame (j - 1) (by omega) (by omega)) hc
        have hsw := down_one (d := e) (i := i) (j := j - 1) (by omega)
        rw [show j - 1 + 1 = j by omega, ← upd_swp, rot_out (k := j - 1) (by omega), rot_lo (k := j) (by omega) (by omega) hji (by omega), show j + (i - j) = i by omega] at hsw
        repeat' (first | (apply ao_nilh; exact hsub_a) | apply ao_nil | apply aq_nil | apply ah_end | ((first | apply ao_val | apply aq_val | (apply ah_take; (exact rfl))); exact wants_a; exact ov_a; (exact rfl)) | ((first | apply ao_skip | apply aq_skip | (apply ah_skip; (exact rfl))); exact nots_a; (exact rfl)) | (refine ao_is ?_; first | (apply ao_new; exact wants_a; exact on_a; (exact rfl); intro _) | (apply ao_store; exact wants_a; exact ow_a; exact upd_a) | (apply ao_valw; exact wants_a; exact ox_a; (exact rfl); exact upd_a) | (apply ao_skip0; exact nots_a) | (apply ao_append; exact wants_a; (exact rfl); assumption; (exact rfl); exact cut_a; exact has_a; (exact rfl); (exact rfl); omega; omega; omega; (exact rfl); intro vr lr hr)) | ((first | apply ao_call | apply aq_call); exact wants_a; (first | exact oc_func rfl | exact oc_clos rfl rfl | exact oc_bnd rfl rfl); (exact rfl); (first | exact fun w hw => hcl w)) | ((refine ao_is ?_; apply ao_store; exact wants_a; (apply ow_storeR hC.len hC.flat (i := j); (exact rfl); omega; (exact rfl); exact has_a; omega); exact upd_a)) | ((refine ao_is ?_; apply ao_store; exact wants_a; (apply ow_storeR hC.len hC.flat (i := j - 1); (exact rfl); omega; (exact rfl); exact has_a; omega); exact upd_a)) | (apply ah_one; (exact rfl)) | (apply ah_two; (exact rfl); (exact rfl)) | (apply ah_three; (exact rfl); (exact rfl); (exact rfl)) | (refine aw_is ?_; first | (apply aw_held (id := 6) (pl := (.t 0 (.t 1 (.t 2 (.t 3 (.t 4 (.t 5 (.t 6 (.t 7 (.t 8 (.t 10 (.t 11 (.t 12 (.w 9 (.o 13 (.t 14 (.o 15 (.t 16 (.o 17 .e))))) 13 (.o 9 (.t 14 (.o 15 (.t 16 (.o 17 .e))))))))))))))))))); (kernel_rfl); (kernel_rfl); (kernel_rfl); (solve | (apply hs_skip; exact List.Sublist.refl _))) | refine aw_seq ?_ | refine aw_block ?_ | refine aw_region ?_ | refine aw_skip ?_ | refine aw_exit ?_ | refine aw_ret ?_ | refine aw_label ?_ | refine aw_scope ?_ | refine aw_cond_t rfl (by with_reducible rfl) ?_ | refine aw_cond_f rfl (by with_reducible rfl) ?_ | refine aw_draw (by kernel_rfl) (by kernel_rfl) ?_) | (first | (refine ah_is ?_; (fail_if_success first | refine ah_glit (b := true) rfl rfl rfl (by with_reducible rfl) ?_ | refine ah_glit (b := false) rfl rfl rfl (by with_reducible rfl) ?_); apply ah_gt; (exact rfl); (exact rfl); (exact rfl); exact t_a) | ((refine ao_is ?_; (fail_if_success first | refine ao_glit (b := true) rfl rfl (by with_reducible rfl) ?_ | refine ao_glit (b := false) rfl rfl (by with_reducible rfl) ?_)); apply ao_gt; (exact rfl); (exact rfl); exact t_a) | ((refine aq_is ?_; (fail_if_success first | refine aq_glit (b := true) rfl rfl (by with_reducible rfl) ?_ | refine aq_glit (b := false) rfl rfl (by with_reducible rfl) ?_)); apply aq_gt; (exact rfl); (exact rfl); exact t_a) | (apply aw_ct; (exact rfl); exact t_a)) | (first | (refine ah_is ?_; (fail_if_success first | refine ah_glit (b := true) rfl rfl rfl (by with_reducible rfl) ?_ | refine ah_glit (b := false) rfl rfl rfl (by with_reducible rfl) ?_); apply ah_gf; (exact rfl); (exact rfl); (exact rfl); exact f_a) | ((refine ao_is ?_; (fail_if_success first | refine ao_glit (b := true) rfl rfl (by with_reducible rfl) ?_ | refine ao_glit (b := false) rfl rfl (by with_reducible rfl) ?_)); apply ao_gf; (exact rfl); (exact rfl); exact f_a) | ((refine aq_is ?_; (fail_if_success first | refine aq_glit (b := true) rfl rfl (by with_reducible rfl) ?_ | refine aq_glit (b := false) rfl rfl (by with_reducible rfl) ?_)); apply aq_gf; (exact rfl); (exact rfl); exact f_a) | (apply aw_cf; (exact rfl); exact f_a)) | refine at_normal ?_ | refine at_exit ?_ | refine at_ret ?_ | refine ib_normal ?_ | refine ib_exit ?_ | refine ib_other ?_ | refine ib_ret ?_ | refine lq_exit ?_ | refine lq_ret ?_ | refine ci_ret ?_ | refine ci_exit ?_ | refine r1_ret rfl ?_ | refine r1_normal rfl ?_ | refine r2_ret rfl rfl ?_ | refine r2_normal rfl rfl ?_ | refine r3_ret rfl rfl rfl ?_ | refine r3_normal rfl rfl rfl ?_ | refine ng_normal ?_ | refine ng_exit ?_ | refine ng_ret ?_ | (apply rt_ret; (exact rfl); (exact rfl); (exact rfl); exact has_a; exact has_a; (exact rfl); (exact rfl)) | (apply rc1_ret; (exact rfl); exact has_a; (exact rfl)) | (apply rc2_ret; (exact rfl); exact has_a; (exact rfl); (exact rfl)) | (refine ao_is ?_; (fail_if_success first | refine ao_glit (b := true) rfl rfl (by with_reducible rfl) ?_ | refine ao_glit (b := false) rfl rfl (by with_reducible rfl) ?_); refine ao_gbool rfl rfl (fun _ => ?_) (fun _ => ?_)) | (refine aq_is ?_; (fail_if_success first | refine aq_glit (b := true) rfl rfl (by with_reducible rfl) ?_ | refine aq_glit (b := false) rfl rfl (by with_reducible rfl) ?_); refine aq_gbool rfl rfl (fun _ => ?_) (fun _ => ?_)) | (refine aw_is ?_; refine aw_cond rfl (fun _ => ?_) (fun _ => ?_)))
        all_goals
          rw [hsw, show ((j : Int) - 1) = ((j - 1 : Nat) : Int) by omega]
          exact lq_normal' ⟨j - 1, rfl, by omega, by omega, fun k h1 h2 => by
            rcases Nat.eq_or_lt_of_le h1 with rfl | h3
            · exact hm
            · exact hall k (by omega) h2, rfl, rfl⟩ (by omega) (by repeat (first | exact sub_nil | refine sub_cons rfl ?_)) (List.Sublist.refl _)
    · obtain rfl : j = a := by omega
      obtain ⟨f1, f2⟩ := fin fun k h1 h2 => by omega
      repeat' (first | refine aw_seq ?_ | refine zz ?_ | refine zon fun _ => ?_ | refine zoa fun vr lr hr => ?_ | refine zoS (fun _ => ?_) (fun _ => ?_) | refine zqS (fun _ => ?_) (fun _ => ?_) | refine zwS (fun _ => ?_) (fun _ => ?_))
      rw [show ((i : Int) + 1) = ((i + 1 : Nat) : Int) by omega]
      exact lq_normal' ⟨i + 1, _, rfl, by omega, by omega, f1, f2, rfl, rfl⟩ (by omega) (by repeat (first | exact sub_nil | refine sub_cons rfl ?_)) (List.Sublist.refl _)
  · repeat' (first | refine aw_seq ?_ | refine zz ?_ | refine zon fun _ => ?_ | refine zoa fun vr lr hr => ?_ | refine zoS (fun _ => ?_) (fun _ => ?_) | refine zqS (fun _ => ?_) (fun _ => ?_) | refine zwS (fun _ => ?_) (fun _ => ?_))
    rw [Nat.min_eq_right (by omega)] at hmv
    exact ⟨_, List.Sublist.refl _, e, hmv, hord.sub (Nat.le_refl _) (by omega), rfl⟩
end Srw
end Go.Proofs.YtdakeicfhbggeaaGreat
