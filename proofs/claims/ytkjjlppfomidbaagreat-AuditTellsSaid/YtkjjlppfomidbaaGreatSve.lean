/- Contracts of the library's stable sort over texts: swaps of ranges, rotations; conditions: rows of at most 1,000,000 elements. -/
import Derived.Test.YtkjjlppfomidbaaGreatSxw
import Derived.Test.YtkjjlppfomidbaaGreatSrm
import Derived.Test.YtkjjlppfomidbaaGreatTy
/- Sva: Contracts of the library's stable sort over texts: swaps of ranges, rotations; conditions: rows of at most 1,000,000 elements. -/
namespace Go.Proofs.YtkjjlppfomidbaaGreat
namespace Sst
open Go Go.RowKit Sx Srt
attribute [local irreducible] Go.Calls
variable {α : Type} {f : α → Value} {rs : List Value} {cp : Nat}
def rowT (f : α → Value) (rs : List Value) (n : Nat) (d : Nat → α) : List Value := rowL (fun a => [f a]) n d ++ rs
abbrev RO (f : α → Value) (rs : List Value) (g n : Nat) (d : Nat → α) : Nat × Obj := (g, .cells (rowT f rs n d).toArray 9 (0, 0))
abbrev SV (g n cp : Nat) : Value := .slice (some ⟨g, 0, none⟩) n cp
abbrev FV (c : FuncId) (pv : Value) : Value := .func (.func c) #[] #[pv]
theorem rowT_at {n i : Nat} {d : Nat → α} (hi : i < n) {z : Int} (hz : z = (i : Int)) : (rowT f rs n d)[0 + z.toNat * 1]? = some (f (d i)) := by
  subst hz
  have h := rowL_sl (f := fun a => [f a]) (sz := 1) (n := n) (fun _ => rfl) (by omega) (d := d) hi (z := (i : Int)) rfl
  obtain ⟨hv, hl⟩ := sl_spec _ _ _ _ h
  have h1 : (rowL (fun a => [f a]) n d)[0 + ((i : Int)).toNat * 1]? = some (f (d i)) := by
    have := congrArg (fun l => l[0]?) hv
    simpa [List.getElem?_take, List.getElem?_drop] using this
  unfold rowT
  rw [List.getElem?_append_left (List.getElem?_eq_some_iff.1 h1).1]
  exact h1
section
variable {P : Program} {E : Env} {t : Tm} {H : Hp}
theorem ow_storeT {xo yo : Operand} {st : TypeId} {b n i : Nat} {z : Int} {d : Nat → α} {x : α} {ty e : TypeId} [TyC P st] (hfl : ∀ a, flat (f a) = true)
    (hx : ev t xo = some (.pointer (some ⟨b, 0 + z.toNat * 1, none⟩))) (hz : z = (i : Int)) (hy : ev t yo = some (f x)) (hb : Has H b (.cells (rowT f rs n d).toArray e (0, 0))) (hi : i < n) :
    OpW P E (.store st xo yo) ty t H b (.cells (rowT f rs n (upd d i x)).toArray e (0, 0)) .skip := by
  have hlt : i < (rowL (fun a => [f a]) n d).length := by rw [rowL_len (sz := 1) (fun _ => rfl)]; omega
  have e1 : (rowT f rs n d).set (0 + z.toNat * 1) (f x) = rowT f rs n (upd d i x) := by
    subst hz
    have := setAll_row (f := fun a => [f a]) (sz := 1) (n := n) (fun _ => rfl) (d := d) hi x
    unfold rowT
    rw [← this, show 0 + ((i : Int)).toNat * 1 = i by omega, Nat.mul_one, List.set_append_left _ _ hlt]
    rfl
  rw [← e1]
  refine ow_store_s hx hy hb ?_ (hfl x)
  subst hz
  unfold rowT
  rw [List.length_append]
  omega
end
set_option maxHeartbeats 8000000 in
theorem swr_ok (hfl : ∀ x, flat (f x) = true) (c : FuncId) (pv : Value) {B m : Nat} {w0 : World} (g n a b k : Nat) (za zb : Int) (hza : za = a) (hzb : zb = b) (d : Nat → α) (h1 : a + k ≤ b) (h2 : b + k ≤ n) (hn : n ≤ 1000000) :
    CallsF Tryz.prog ⟨B, w0, m⟩ 180 [SV g n cp, I za, I zb, I k, FV c pv] [RO f rs g n d] (.tuple #[]) [RO f rs g n (swr d a b k)] := by
  subst hza hzb
  refine callsF0 Tryz.func180 rfl rfl rfl rfl fun R => ?_
  repeat' (first | refine aw_seq ?_ | refine zz ?_ | refine zon fun _ => ?_ | refine zoa fun vr lr hr => ?_ | refine zoS (fun _ => ?_) (fun _ => ?_) | refine zqS (fun _ => ?_) (fun _ => ?_) | refine zwS (fun _ => ?_) (fun _ => ?_))
  refine aw_for (t0 := [(0, SV g n cp), (1, I a), (2, I b), (3, I k), (10, I (0 : Nat))]) (fun q t H => ∃ i : Nat, q = k - i ∧ i ≤ k ∧ t = [(0, SV g n cp), (1, I a), (2, I b), (3, I k), (10, I i)] ∧ H = RO f rs g n (swr d a b i) :: R) ⟨0, rfl, by omega, rfl, by rw [swr_zero]; rfl⟩ (by repeat (first | exact sub_nil | refine sub_cons rfl ?_)) ?_
  rintro q t H ⟨i, rfl, hi, rfl, rfl⟩
  by_cases hlt : i < k
  · have s1 := rowT_at (f := f) (rs := rs) (n := n) (d := swr d a b i) (i := a + i) (by omega) (z := (a : Int) + (i : Int)) (by omega)
    have s2 := rowT_at (f := f) (rs := rs) (n := n) (d := swr d a b i) (i := b + i) (by omega) (z := (b : Int) + (i : Int)) (by omega)
    repeat' (first | refine zhn ?_ | refine ah_end ?_ | refine zhv ?_ | (apply ah_one; (exact rfl)) | (apply ah_two; (exact rfl); (exact rfl)) | (apply ah_three; (exact rfl); (exact rfl); (exact rfl)) | (apply aw_held (id := 3) (pl := (.t 0 (.t 1 (.t 2 (.t 3 (.t 4 (.t 5 (.t 6 (.t 7 (.t 8 (.t 9 (.t 10 (.t 11 (.t 12 (.t 14 (.t 15 (.t 16 (.t 17 (.t 18 (.w 13 (.o 19 (.t 20 (.o 21 (.t 22 (.o 23 .e))))) 19 (.o 13 (.t 20 (.o 21 (.t 22 (.o 23 .e))))))))))))))))))))))))); (kernel_rfl); (kernel_rfl); (kernel_rfl); (solve | (apply hs_skip; exact List.Sublist.refl _))) | refine aw_seq ?_ | refine zv ?_ | (refine aw_is ?_; refine zwd ?_) | refine zhk ?_ | refine zhT ?_ | refine zhF ?_ | refine zon fun _ => ?_ | refine zoa fun vr lr hr => ?_ | ((refine ao_is ?_; apply ao_store; exact wants_a; (apply ow_storeT hfl (i := a + i); (exact rfl); omega; (exact rfl); exact has_a; omega); exact upd_a)) | ((refine ao_is ?_; apply ao_store; exact wants_a; (apply ow_storeT hfl (i := b + i); (exact rfl); omega; (exact rfl); exact has_a; omega); exact upd_a)) | refine zoS (fun _ => ?_) (fun _ => ?_) | refine zqS (fun _ => ?_) (fun _ => ?_) | refine zwS (fun _ => ?_) (fun _ => ?_))
    all_goals
      rw [upd_swp, swr_one (by omega)]
      exact lq_normal' ⟨i + 1, rfl, by omega, rfl, rfl⟩ (by omega) (by repeat (first | exact sub_nil | refine sub_cons rfl ?_)) (List.Sublist.refl _)
  · obtain rfl : i = k := by omega
    repeat' (first | refine aw_seq ?_ | refine zz ?_ | refine zon fun _ => ?_ | refine zoa fun vr lr hr => ?_ | refine zoS (fun _ => ?_) (fun _ => ?_) | refine zqS (fun _ => ?_) (fun _ => ?_) | refine zwS (fun _ => ?_) (fun _ => ?_))
    all_goals exact List.Sublist.refl _
set_option maxHeartbeats 8000000 in
theorem rot_ok (hfl : ∀ x, flat (f x) = true) (c : FuncId) (pv : Value) {B mm : Nat} {w0 : World} (g n a m b : Nat) (zb : Int) (hzb : zb = b) (d : Nat → α) (h1 : a < m) (h2 : m < b) (h3 : b ≤ n) (hn : n ≤ 1000000) :
    CallsF Tryz.prog ⟨B, w0, mm⟩ 176 [SV g n cp, I a, I m, I zb, FV c pv] [RO f rs g n d] (.tuple #[]) [RO f rs g n (rot d a m b)] := by
  subst hzb
  refine callsF0 Tryz.func176 rfl rfl rfl rfl fun R => ?_
  repeat' (first | refine aw_seq ?_ | refine zz ?_ | refine zon fun _ => ?_ | refine zoa fun vr lr hr => ?_ | refine zoS (fun _ => ?_) (fun _ => ?_) | refine zqS (fun _ => ?_) (fun _ => ?_) | refine zwS (fun _ => ?_) (fun _ => ?_))
  rw [show ((m : Int) - (a : Int)) = ((m - a : Nat) : Int) by omega, show ((b : Int) - (m : Int)) = ((b - m : Nat) : Int) by omega]
  refine aw_for (t0 := [(0, SV g n cp), (2, I m), (4, FV c pv), (10, I (m - a : Nat)), (11, I (b - m : Nat))]) (fun q t H => ∃ (i j : Nat) (e : Nat → α), q = i + j ∧ 0 < i ∧ 0 < j ∧ i ≤ m ∧ m + j ≤ n ∧ rot e (m - i) m (m + j) = rot d a m b ∧ t = [(0, SV g n cp), (2, I m), (4, FV c pv), (10, I i), (11, I j)] ∧ H = RO f rs g n e :: R)
    ⟨m - a, b - m, d, rfl, by omega, by omega, by omega, by omega, by rw [show m - (m - a) = a by omega, show m + (b - m) = b by omega], rfl, rfl⟩ (by repeat (first | exact sub_nil | refine sub_cons rfl ?_)) ?_
  rintro q t H ⟨i, j, e, rfl, hi0, hj0, hi, hj, hrot, rfl, rfl⟩
  by_cases hij : i = j
  · subst hij
    repeat' (first | refine aw_seq ?_ | refine zz ?_ | refine zon fun _ => ?_ | refine zoa fun vr lr hr => ?_ | (apply ao_callF; exact wants_a; (first | exact oc_func rfl | exact oc_clos rfl rfl | exact oc_bnd rfl rfl); (exact rfl); (first | exact swr_ok (rs := rs) hfl c pv g n (m - i) m i _ _ (by omega) rfl e (by omega) hj hn); exact cuts_a; intro _ hH; simp only [List.cons_append, List.nil_append] at hH; subst hH) | refine zoS (fun _ => ?_) (fun _ => ?_) | refine zqS (fun _ => ?_) (fun _ => ?_) | refine zwS (fun _ => ?_) (fun _ => ?_))
    all_goals
      rw [rot_same hi, hrot]
      exact List.Sublist.refl _
  · by_cases hlt : j < i
    · repeat' (first | refine aw_seq ?_ | refine zz ?_ | refine zon fun _ => ?_ | refine zoa fun vr lr hr => ?_ | (apply ao_callF; exact wants_a; (first | exact oc_func rfl | exact oc_clos rfl rfl | exact oc_bnd rfl rfl); (exact rfl); (first | exact swr_ok (rs := rs) hfl c pv g n (m - i) m j _ _ (by omega) rfl e (by omega) hj hn); exact cuts_a; intro _ hH; simp only [List.cons_append, List.nil_append] at hH; subst hH) | refine zoS (fun _ => ?_) (fun _ => ?_) | refine zqS (fun _ => ?_) (fun _ => ?_) | refine zwS (fun _ => ?_) (fun _ => ?_))
      all_goals
        rw [show ((i : Int) - (j : Int)) = ((i - j : Nat) : Int) by omega]
        exact lq_normal' ⟨i - j, j, _, rfl, by omega, hj0, by omega, hj, (rot_left hlt hi).trans hrot, rfl, rfl⟩ (by omega) (by repeat (first | exact sub_nil | refine sub_cons rfl ?_)) (List.Sublist.refl _)
    · repeat' (first | refine aw_seq ?_ | refine zz ?_ | refine zon fun _ => ?_ | refine zoa fun vr lr hr => ?_ | (apply ao_callF; exact wants_a; (first | exact oc_func rfl | exact oc_clos rfl rfl | exact oc_bnd rfl rfl); (exact rfl); (first | exact swr_ok (rs := rs) hfl c pv g n (m - i) (m + j - i) i _ _ (by omega) (by omega) e (by omega) (by omega) hn); exact cuts_a; intro _ hH; simp only [List.cons_append, List.nil_append] at hH; subst hH) | refine zoS (fun _ => ?_) (fun _ => ?_) | refine zqS (fun _ => ?_) (fun _ => ?_) | refine zwS (fun _ => ?_) (fun _ => ?_))
      all_goals
        rw [show ((j : Int) - (i : Int)) = ((j - i : Nat) : Int) by omega]
        exact lq_normal' ⟨i, j - i, _, rfl, hi0, by omega, hi, by omega, (rot_right (by omega) hi).trans hrot, rfl, rfl⟩ (by omega) (by repeat (first | exact sub_nil | refine sub_cons rfl ?_)) (List.Sublist.refl _)
end Sst
end Go.Proofs.YtkjjlppfomidbaaGreat
/- Svb: Contracts of the library's stable sort over texts: the sort by insertion, the merge; conditions: rows of at most 1,000,000 elements. -/
namespace Go.Proofs.YtkjjlppfomidbaaGreat
namespace Sst
open Go Go.RowKit Sx Srt
attribute [local irreducible] Go.Calls
variable {α : Type} {f : α → Value} {rs : List Value} {cp : Nat}
structure Cmp (f : α → Value) (c : FuncId) (pv : Value) (lt : α → α → Prop) (x : α → Nat) (cmp : α → α → Int) (B : Nat) (w0 : World) (R : Hp) : Prop where
  flat : ∀ u, flat (f u) = true
  less : ∀ u v, x u < x v → decide (cmp v u < 0) = true → lt v u
  more : ∀ u v, x u < x v → decide (cmp v u < 0) = false → lt u v
  trans : ∀ u v w, lt u v → lt v w → lt u w
  call : ∀ u v q w, RepH ⟨B, w0, q⟩ R w → Calls Tryz.prog c #[f u, f v, pv] w fun e w' => e = .returned (I (cmp u v)) ∧ Below w.heap.size w w'
def SortedTo (lt : α → α → Prop) (f : α → Value) (rs : List Value) (g n a b : Nat) (d : Nat → α) (R : Hp) : Value → Hp → Prop := fun u H' => u = .tuple #[] ∧ ∃ e, Mv a b d e ∧ Ord lt e a b ∧ H' = RO f rs g n e :: R
set_option maxHeartbeats 16000000 in
theorem ins_ok {c : FuncId} {pv : Value} [FnB Tryz.prog c] {lt : α → α → Prop} {x : α → Nat} {cmp : α → α → Int} {B mm : Nat} {w0 : World} {R : Hp} (hC : Cmp f c pv lt x cmp B w0 R) (g n a b : Nat) (za zb : Int) (hza : za = a) (hzb : zb = b) (d : Nat → α) (hab : a ≤ b) (hb : b ≤ n) (hn : n ≤ 1000000)
    (hx : ∀ i j, a ≤ i → i < j → j < b → x (d i) < x (d j)) :
    CallsH Tryz.prog ⟨B, w0, mm⟩ 162 [SV g n cp, I za, I zb, FV c pv] ([RO f rs g n d] ++ R) (SortedTo lt f rs g n a b d R) := by
  subst hza hzb
  refine callsH0 (K := fun H' => ∃ e, Mv a b d e ∧ Ord lt e a b ∧ H' = RO f rs g n e :: R) Tryz.func162 rfl rfl rfl rfl ?_
  repeat' (first | refine aw_seq ?_ | refine zz ?_ | refine zon fun _ => ?_ | refine zoa fun vr lr hr => ?_ | refine zoS (fun _ => ?_) (fun _ => ?_) | refine zqS (fun _ => ?_) (fun _ => ?_) | refine zwS (fun _ => ?_) (fun _ => ?_))
  rw [show ((a : Int) + 1) = ((a + 1 : Nat) : Int) by omega]
  refine aw_for (t0 := [(0, SV g n cp), (1, I a), (2, I b), (3, FV c pv), (8, I (a + 1 : Nat))]) (fun q t H => ∃ (i : Nat) (e : Nat → α), q = b - i ∧ a + 1 ≤ i ∧ i ≤ max b (a + 1) ∧ Mv a (min i b) d e ∧ Ord lt e a i ∧ t = [(0, SV g n cp), (1, I a), (2, I b), (3, FV c pv), (8, I i)] ∧ H = RO f rs g n e :: R)
    ⟨a + 1, d, rfl, by omega, by omega, .refl, .one, rfl, rfl⟩ (by repeat (first | exact sub_nil | refine sub_cons rfl ?_)) ?_
  rintro q t H ⟨i, e, rfl, hai, hib, hmv, hord, rfl, rfl⟩
  by_cases hlt : i < b
  · rw [Nat.min_eq_left (by omega)] at hmv
    have hcame : ∀ k, a ≤ k → k < i → x (e k) < x (e i) := fun k h1 h2 => by
      obtain ⟨j, g1, g2, g3⟩ := hmv.to h1 h2
      rw [g3, hmv.out (.inr (Nat.le_refl _))]
      exact hx j i g1 g2 hlt
    repeat' (first | refine aw_seq ?_ | refine zz ?_ | refine zon fun _ => ?_ | refine zoa fun vr lr hr => ?_ | refine zoS (fun _ => ?_) (fun _ => ?_) | refine zqS (fun _ => ?_) (fun _ => ?_) | refine zwS (fun _ => ?_) (fun _ => ?_))
    refine aw_for (t0 := [(0, SV g n cp), (1, I a), (2, I b), (3, FV c pv), (8, I i), (9, I i)]) (fun q t H => ∃ j : Nat, q = j + 1 ∧ a ≤ j ∧ j ≤ i ∧ (∀ k, j ≤ k → k < i → lt (e i) (e k)) ∧ t = [(0, SV g n cp), (1, I a), (2, I b), (3, FV c pv), (8, I i), (9, I j)] ∧ H = RO f rs g n (rot e j i (i + 1)) :: R)
      ⟨i, rfl, by omega, by omega, fun k h1 h2 => by omega, rfl, by rw [down_none]⟩ (by repeat (first | exact sub_nil | refine sub_cons rfl ?_)) ?_
    rintro q t H ⟨j, rfl, haj, hji, hall, rfl, rfl⟩
    have fin : (∀ k, a ≤ k → k < j → lt (e k) (e i)) → Mv a (min (i + 1) b) d (rot e j i (i + 1)) ∧ Ord lt (rot e j i (i + 1)) a (i + 1) := fun h => by
      rw [Nat.min_eq_left (by omega)]
      exact ⟨(hmv.mono (Nat.le_refl _) (by omega)).trans ((rot_mv hji (by omega)).mono haj (Nat.le_refl _)), hord.down haj hji h hall⟩
    by_cases hj : a < j
    · have s1 : (rowT f rs n (rot e j i (i + 1)))[0 + ((j : Int)).toNat * 1]? = some (f (e i)) := by
        rw [rowT_at (i := j) (by omega) rfl, rot_lo (by omega) (by omega) hji (by omega), show j + (i - j) = i by omega]
      have s2 : (rowT f rs n (rot e j i (i + 1)))[0 + ((j : Int) - 1).toNat * 1]? = some (f (e (j - 1))) := by
        rw [rowT_at (i := j - 1) (by omega) (by omega), rot_out (by omega)]
      have hcl := fun {H : Hp} {q : Nat} (hs : R.Sublist H) w (hw : RepH ⟨B, w0, q⟩ H w) => hC.call (e i) (e (j - 1)) q w (hw.sub hs)
      cases hc : decide (cmp (e i) (e (j - 1)) < 0)
      · have hm := hC.more _ _ (hcame (j - 1) (by omega) (by omega)) hc
        obtain ⟨f1, f2⟩ := fin fun k h1 h2 => hord.ltl hC.trans h1 (show k ≤ j - 1 by omega) (by omega) hm
        repeat' (first | refine aw_seq ?_ | refine zz ?_ | refine zon fun _ => ?_ | refine zoa fun vr lr hr => ?_ | ((first | apply ao_call | apply aq_call); exact wants_a; (first | exact oc_func rfl | exact oc_clos rfl rfl | exact oc_bnd rfl rfl); (exact rfl); (first | exact fun w hw => hcl hsub_a w hw)) | refine zoS (fun _ => ?_) (fun _ => ?_) | refine zqS (fun _ => ?_) (fun _ => ?_) | refine zwS (fun _ => ?_) (fun _ => ?_))
        rw [show ((i : Int) + 1) = ((i + 1 : Nat) : Int) by omega]
        exact lq_normal' ⟨i + 1, _, rfl, by omega, by omega, f1, f2, rfl, rfl⟩ (by omega) (by repeat (first | exact sub_nil | refine sub_cons rfl ?_)) (List.Sublist.refl _)
      · have hm := hC.less _ _ (hcame (j - 1) (by omega) (by omega)) hc
        have hsw := down_one (d := e) (i := i) (j := j - 1) (by omega)
        rw [show j - 1 + 1 = j by omega, ← upd_swp, rot_out (k := j - 1) (by omega), rot_lo (k := j) (by omega) (by omega) hji (by omega), show j + (i - j) = i by omega] at hsw
        repeat' (first | refine zhn ?_ | refine ah_end ?_ | refine zhv ?_ | (apply ah_one; (exact rfl)) | (apply ah_two; (exact rfl); (exact rfl)) | (apply ah_three; (exact rfl); (exact rfl); (exact rfl)) | (apply aw_held (id := 6) (pl := (.t 0 (.t 1 (.t 2 (.t 3 (.t 4 (.t 5 (.t 6 (.t 7 (.t 8 (.t 10 (.t 11 (.t 12 (.w 9 (.o 13 (.t 14 (.o 15 (.t 16 (.o 17 .e))))) 13 (.o 9 (.t 14 (.o 15 (.t 16 (.o 17 .e))))))))))))))))))); (kernel_rfl); (kernel_rfl); (kernel_rfl); (solve | (apply hs_skip; exact List.Sublist.refl _))) | refine aw_seq ?_ | refine zv ?_ | (refine aw_is ?_; refine zwd ?_) | refine zhk ?_ | refine zhT ?_ | refine zhF ?_ | refine zon fun _ => ?_ | refine zoa fun vr lr hr => ?_ | ((first | apply ao_call | apply aq_call); exact wants_a; (first | exact oc_func rfl | exact oc_clos rfl rfl | exact oc_bnd rfl rfl); (exact rfl); (first | exact fun w hw => hcl hsub_a w hw)) | ((refine ao_is ?_; apply ao_store; exact wants_a; (apply ow_storeT hC.flat (i := j); (exact rfl); omega; (exact rfl); exact has_a; omega); exact upd_a)) | ((refine ao_is ?_; apply ao_store; exact wants_a; (apply ow_storeT hC.flat (i := j - 1); (exact rfl); omega; (exact rfl); exact has_a; omega); exact upd_a)) | refine zoS (fun _ => ?_) (fun _ => ?_) | refine zqS (fun _ => ?_) (fun _ => ?_) | refine zwS (fun _ => ?_) (fun _ => ?_))
        all_goals
          rw [hsw, show ((j : Int) - 1) = ((j - 1 : Nat) : Int) by omega]
          exact lq_normal' ⟨j - 1, rfl, by omega, by omega, fun k h1 h2 => by
            rcases Nat.eq_or_lt_of_le h1 with rfl | h3
            · exact hm
            · exact hall k (by omega) h2, rfl, rfl⟩ (by omega) (by repeat (first | exact sub_nil | refine sub_cons rfl ?_)) (List.Sublist.refl _)
    · obtain rfl : j = a := by omega
      obtain ⟨f1, f2⟩ := fin fun k h1 h2 => by omega
      repeat' (first | refine aw_seq ?_ | refine zz ?_ | refine zon fun _ => ?_ | refine zoa fun vr lr hr => ?_ | refine zoS (fun _ => ?_) (fun _ => ?_) | refine zqS (fun _ => ?_) (fun _ => ?_) | refine zwS (fun _ => ?_) (fun _ => ?_))
      rw [show ((i : Int) + 1) = ((i + 1 : Nat) : Int) by omega]
      exact lq_normal' ⟨i + 1, _, rfl, by omega, by omega, f1, f2, rfl, rfl⟩ (by omega) (by repeat (first | exact sub_nil | refine sub_cons rfl ?_)) (List.Sublist.refl _)
  · repeat' (first | refine aw_seq ?_ | refine zz ?_ | refine zon fun _ => ?_ | refine zoa fun vr lr hr => ?_ | refine zoS (fun _ => ?_) (fun _ => ?_) | refine zqS (fun _ => ?_) (fun _ => ?_) | refine zwS (fun _ => ?_) (fun _ => ?_))
    rw [Nat.min_eq_right (by omega)] at hmv
    exact ⟨_, List.Sublist.refl _, e, hmv, hord.sub (Nat.le_refl _) (by omega), rfl⟩
end Sst
end Go.Proofs.YtkjjlppfomidbaaGreat
/- Svc: Contracts of the library's stable sort over texts: the merge; conditions: rows of at most 1,000,000 elements. -/
namespace Go.Proofs.YtkjjlppfomidbaaGreat
namespace Sst
open Go Go.RowKit Sx Srt
attribute [local irreducible] Go.Calls
variable {α : Type} {f : α → Value} {rs : List Value} {cp : Nat}
set_option maxHeartbeats 16000000 in
theorem sym_left {c : FuncId} {pv : Value} [FnB Tryz.prog c] {lt : α → α → Prop} {x : α → Nat} {cmp : α → α → Int} {B mm : Nat} {w0 : World} {R : Hp} (hC : Cmp f c pv lt x cmp B w0 R) (g n a b : Nat) (d : Nat → α) (hmb : a + 1 < b) (hb : b ≤ n) (hn : n ≤ 1000000)
    (h2 : Ord lt d (a + 1) b) (hx : Came x d a (a + 1) b) :
    CallsH Tryz.prog ⟨B, w0, mm⟩ 163 [SV g n cp, I a, I (a + 1 : Nat), I b, FV c pv] ([RO f rs g n d] ++ R) (SortedTo lt f rs g n a b d R) := by
  refine callsH0 (K := fun H' => ∃ e, Mv a b d e ∧ Ord lt e a b ∧ H' = RO f rs g n e :: R) Tryz.func163 rfl rfl rfl rfl ?_
  repeat' (first | refine aw_seq ?_ | refine zz ?_ | refine zon fun _ => ?_ | refine zoa fun vr lr hr => ?_ | refine zoS (fun _ => ?_) (fun _ => ?_) | refine zqS (fun _ => ?_) (fun _ => ?_) | refine zwS (fun _ => ?_) (fun _ => ?_))
  refine aw_for (t0 := [(0, SV g n cp), (1, I a), (4, FV c pv), (10, I (a + 1 : Nat)), (11, I b)]) (fun q t H => ∃ i j : Nat, q = j - i ∧ a + 1 ≤ i ∧ i ≤ j ∧ j ≤ b ∧ (∀ k, a + 1 ≤ k → k < i → lt (d k) (d a)) ∧ (∀ k, j ≤ k → k < b → lt (d a) (d k)) ∧ t = [(0, SV g n cp), (1, I a), (4, FV c pv), (10, I i), (11, I j)] ∧ H = RO f rs g n d :: R)
    ⟨a + 1, b, rfl, by omega, by omega, by omega, fun k g1 g2 => by omega, fun k g1 g2 => by omega, rfl, rfl⟩ (by repeat (first | exact sub_nil | refine sub_cons rfl ?_)) ?_
  rintro q t H ⟨i, j, rfl, hi, hij, hj, hlo, hhi, rfl, rfl⟩
  by_cases hlt : i < j
  · obtain ⟨h, hh⟩ : ∃ h : Nat, h = (i + j) / 2 := ⟨_, rfl⟩
    have s1 := rowT_at (f := f) (rs := rs) (n := n) (d := d) (i := h) (by omega) (z := (h : Int)) rfl
    have s2 := rowT_at (f := f) (rs := rs) (n := n) (d := d) (i := a) (by omega) (z := (a : Int)) rfl
    have hcl := fun {H : Hp} {q : Nat} (hs : R.Sublist H) w (hw : RepH ⟨B, w0, q⟩ H w) => hC.call (d h) (d a) q w (hw.sub hs)
    have hca := hx a h (by omega) (by omega) (by omega) (by omega)
    cases hc : decide (cmp (d h) (d a) < 0)
    · have hm := hC.more _ _ hca hc
      repeat' (first | refine aw_seq ?_ | ((first | apply ao_val | apply aq_val); exact wants_a; (first | exact ov_shrR 1 (h : Int) rfl rfl rfl (by decide) (by omega) | exact ov_a); (exact rfl)) | refine zy ?_ | refine zon fun _ => ?_ | refine zoa fun vr lr hr => ?_ | ((first | apply ao_call | apply aq_call); exact wants_a; (first | exact oc_func rfl | exact oc_clos rfl rfl | exact oc_bnd rfl rfl); (exact rfl); (first | exact fun w hw => hcl hsub_a w hw)) | refine zoS (fun _ => ?_) (fun _ => ?_) | refine zqS (fun _ => ?_) (fun _ => ?_) | refine zwS (fun _ => ?_) (fun _ => ?_))
      exact lq_normal' ⟨i, h, rfl, hi, by omega, by omega, hlo, fun k g1 g2 => h2.ltr hC.trans (by omega) g1 g2 hm, rfl, rfl⟩ (by omega) (by repeat (first | exact sub_nil | refine sub_cons rfl ?_)) (List.Sublist.refl _)
    · have hm := hC.less _ _ hca hc
      repeat' (first | refine aw_seq ?_ | ((first | apply ao_val | apply aq_val); exact wants_a; (first | exact ov_shrR 1 (h : Int) rfl rfl rfl (by decide) (by omega) | exact ov_a); (exact rfl)) | refine zy ?_ | refine zon fun _ => ?_ | refine zoa fun vr lr hr => ?_ | ((first | apply ao_call | apply aq_call); exact wants_a; (first | exact oc_func rfl | exact oc_clos rfl rfl | exact oc_bnd rfl rfl); (exact rfl); (first | exact fun w hw => hcl hsub_a w hw)) | refine zoS (fun _ => ?_) (fun _ => ?_) | refine zqS (fun _ => ?_) (fun _ => ?_) | refine zwS (fun _ => ?_) (fun _ => ?_))
      rw [show ((h : Int) + 1) = ((h + 1 : Nat) : Int) by omega]
      exact lq_normal' ⟨h + 1, j, rfl, by omega, by omega, hj, fun k g1 g2 => h2.ltl hC.trans g1 (show k ≤ h by omega) (by omega) hm, hhi, rfl, rfl⟩ (by omega) (by repeat (first | exact sub_nil | refine sub_cons rfl ?_)) (List.Sublist.refl _)
  · obtain rfl : i = j := by omega
    repeat' (first | refine aw_seq ?_ | refine zz ?_ | refine zon fun _ => ?_ | refine zoa fun vr lr hr => ?_ | refine zoS (fun _ => ?_) (fun _ => ?_) | refine zqS (fun _ => ?_) (fun _ => ?_) | refine zwS (fun _ => ?_) (fun _ => ?_))
    refine aw_for (t0 := [(0, SV g n cp), (10, I i), (13, I a)]) (fun q t H => ∃ k : Nat, q = i - k ∧ a ≤ k ∧ k + 1 ≤ i ∧ t = [(0, SV g n cp), (10, I i), (13, I k)] ∧ H = RO f rs g n (rot d a (a + 1) (k + 1)) :: R)
      ⟨a, rfl, by omega, by omega, rfl, by rw [up_none]⟩ (by repeat (first | exact sub_nil | refine sub_cons rfl ?_)) ?_
    rintro q t H ⟨k, rfl, hak, hki, rfl, rfl⟩
    by_cases hk : k + 1 < i
    · have s1 : (rowT f rs n (rot d a (a + 1) (k + 1)))[0 + ((k : Int)).toNat * 1]? = some (f (d a)) := by
        rw [rowT_at (i := k) (by omega) rfl, rot_hi (by omega) (by omega), show k - (k + 1 - (a + 1)) = a by omega]
      have s2 : (rowT f rs n (rot d a (a + 1) (k + 1)))[0 + ((k : Int) + 1).toNat * 1]? = some (f (d (k + 1))) := by
        rw [rowT_at (i := k + 1) (by omega) (by omega), rot_out (by omega)]
      have hsw := up_one (d := d) hak
      rw [← upd_swp, rot_out (k := k + 1) (by omega), rot_hi (k := k) (by omega) (by omega), show k - (k + 1 - (a + 1)) = a by omega] at hsw
      repeat' (first | refine zhn ?_ | refine ah_end ?_ | refine zhv ?_ | (apply ah_one; (exact rfl)) | (apply ah_two; (exact rfl); (exact rfl)) | (apply ah_three; (exact rfl); (exact rfl); (exact rfl)) | (apply aw_held (id := 11) (pl := (.t 0 (.t 1 (.t 2 (.t 3 (.t 4 (.t 5 (.t 6 (.t 7 (.t 8 (.t 10 (.t 11 (.t 12 (.w 9 (.o 13 (.t 14 (.o 15 (.t 16 (.o 17 .e))))) 13 (.o 9 (.t 14 (.o 15 (.t 16 (.o 17 .e))))))))))))))))))); (kernel_rfl); (kernel_rfl); (kernel_rfl); (solve | (apply hs_skip; exact List.Sublist.refl _))) | refine aw_seq ?_ | refine zv ?_ | (refine aw_is ?_; refine zwd ?_) | refine zhk ?_ | refine zhT ?_ | refine zhF ?_ | refine zon fun _ => ?_ | refine zoa fun vr lr hr => ?_ | ((refine ao_is ?_; apply ao_store; exact wants_a; (apply ow_storeT hC.flat (i := k); (exact rfl); omega; (exact rfl); exact has_a; omega); exact upd_a)) | ((refine ao_is ?_; apply ao_store; exact wants_a; (apply ow_storeT hC.flat (i := k + 1); (exact rfl); omega; (exact rfl); exact has_a; omega); exact upd_a)) | refine zoS (fun _ => ?_) (fun _ => ?_) | refine zqS (fun _ => ?_) (fun _ => ?_) | refine zwS (fun _ => ?_) (fun _ => ?_))
      all_goals
        rw [hsw, show ((k : Int) + 1) = ((k + 1 : Nat) : Int) by omega]
        exact lq_normal' ⟨k + 1, rfl, by omega, by omega, rfl, rfl⟩ (by omega) (by repeat (first | exact sub_nil | refine sub_cons rfl ?_)) (List.Sublist.refl _)
    · repeat' (first | refine aw_seq ?_ | refine zz ?_ | refine zon fun _ => ?_ | refine zoa fun vr lr hr => ?_ | refine zoS (fun _ => ?_) (fun _ => ?_) | refine zqS (fun _ => ?_) (fun _ => ?_) | refine zwS (fun _ => ?_) (fun _ => ?_))
      obtain rfl : i = k + 1 := by omega
      exact ⟨_, List.Sublist.refl _, _, (rot_mv (by omega) (by omega)).mono (Nat.le_refl _) hj, h2.up (by omega) hj hlo hhi, rfl⟩
set_option maxHeartbeats 16000000 in
theorem sym_right {c : FuncId} {pv : Value} [FnB Tryz.prog c] {lt : α → α → Prop} {x : α → Nat} {cmp : α → α → Int} {B mm : Nat} {w0 : World} {R : Hp} (hC : Cmp f c pv lt x cmp B w0 R) (g n a m : Nat) (d : Nat → α) (ham : a + 1 < m) (hb : m + 1 ≤ n) (hn : n ≤ 1000000)
    (h1 : Ord lt d a m) (hx : Came x d a m (m + 1)) :
    CallsH Tryz.prog ⟨B, w0, mm⟩ 163 [SV g n cp, I a, I m, I (m + 1 : Nat), FV c pv] ([RO f rs g n d] ++ R) (SortedTo lt f rs g n a (m + 1) d R) := by
  refine callsH0 (K := fun H' => ∃ e, Mv a (m + 1) d e ∧ Ord lt e a (m + 1) ∧ H' = RO f rs g n e :: R) Tryz.func163 rfl rfl rfl rfl ?_
  repeat' (first | refine aw_seq ?_ | refine zz ?_ | refine zon fun _ => ?_ | refine zoa fun vr lr hr => ?_ | refine zoS (fun _ => ?_) (fun _ => ?_) | refine zqS (fun _ => ?_) (fun _ => ?_) | refine zwS (fun _ => ?_) (fun _ => ?_))
  refine aw_for (t0 := [(0, SV g n cp), (2, I m), (4, FV c pv), (14, I a), (15, I m)]) (fun q t H => ∃ i j : Nat, q = j - i ∧ a ≤ i ∧ i ≤ j ∧ j ≤ m ∧ (∀ k, a ≤ k → k < i → lt (d k) (d m)) ∧ (∀ k, j ≤ k → k < m → lt (d m) (d k)) ∧ t = [(0, SV g n cp), (2, I m), (4, FV c pv), (14, I i), (15, I j)] ∧ H = RO f rs g n d :: R)
    ⟨a, m, rfl, by omega, by omega, by omega, fun k g1 g2 => by omega, fun k g1 g2 => by omega, rfl, rfl⟩ (by repeat (first | exact sub_nil | refine sub_cons rfl ?_)) ?_
  rintro q t H ⟨i, j, rfl, hi, hij, hj, hlo, hhi, rfl, rfl⟩
  by_cases hlt : i < j
  · obtain ⟨h, hh⟩ : ∃ h : Nat, h = (i + j) / 2 := ⟨_, rfl⟩
    have s1 := rowT_at (f := f) (rs := rs) (n := n) (d := d) (i := h) (by omega) (z := (h : Int)) rfl
    have s2 := rowT_at (f := f) (rs := rs) (n := n) (d := d) (i := m) (by omega) (z := (m : Int)) rfl
    have hcl := fun {H : Hp} {q : Nat} (hs : R.Sublist H) w (hw : RepH ⟨B, w0, q⟩ H w) => hC.call (d m) (d h) q w (hw.sub hs)
    have hca := hx h m (by omega) (by omega) (by omega) (by omega)
    cases hc : decide (cmp (d m) (d h) < 0)
    · have hm := hC.more _ _ hca hc
      have hc2 : (!decide (cmp (d m) (d h) < 0)) = true := by rw [hc]; rfl
      repeat' (first | refine aw_seq ?_ | ((first | apply ao_val | apply aq_val); exact wants_a; (first | exact ov_shrR 1 (h : Int) rfl rfl rfl (by decide) (by omega) | exact ov_a); (exact rfl)) | refine zy ?_ | refine zon fun _ => ?_ | refine zoa fun vr lr hr => ?_ | ((first | apply ao_call | apply aq_call); exact wants_a; (first | exact oc_func rfl | exact oc_clos rfl rfl | exact oc_bnd rfl rfl); (exact rfl); (first | exact fun w hw => hcl hsub_a w hw)) | refine zoS (fun _ => ?_) (fun _ => ?_) | refine zqS (fun _ => ?_) (fun _ => ?_) | refine zwS (fun _ => ?_) (fun _ => ?_))
      rw [show ((h : Int) + 1) = ((h + 1 : Nat) : Int) by omega]
      exact lq_normal' ⟨h + 1, j, rfl, by omega, by omega, hj, fun k g1 g2 => h1.ltl hC.trans g1 (show k ≤ h by omega) (by omega) hm, hhi, rfl, rfl⟩ (by omega) (by repeat (first | exact sub_nil | refine sub_cons rfl ?_)) (List.Sublist.refl _)
    · have hm := hC.less _ _ hca hc
      have hc2 : (!decide (cmp (d m) (d h) < 0)) = false := by rw [hc]; rfl
      repeat' (first | refine aw_seq ?_ | ((first | apply ao_val | apply aq_val); exact wants_a; (first | exact ov_shrR 1 (h : Int) rfl rfl rfl (by decide) (by omega) | exact ov_a); (exact rfl)) | refine zy ?_ | refine zon fun _ => ?_ | refine zoa fun vr lr hr => ?_ | ((first | apply ao_call | apply aq_call); exact wants_a; (first | exact oc_func rfl | exact oc_clos rfl rfl | exact oc_bnd rfl rfl); (exact rfl); (first | exact fun w hw => hcl hsub_a w hw)) | refine zoS (fun _ => ?_) (fun _ => ?_) | refine zqS (fun _ => ?_) (fun _ => ?_) | refine zwS (fun _ => ?_) (fun _ => ?_))
      exact lq_normal' ⟨i, h, rfl, hi, by omega, by omega, hlo, fun k g1 g2 => h1.ltr hC.trans (by omega) g1 g2 hm, rfl, rfl⟩ (by omega) (by repeat (first | exact sub_nil | refine sub_cons rfl ?_)) (List.Sublist.refl _)
  · obtain rfl : i = j := by omega
    repeat' (first | refine aw_seq ?_ | refine zz ?_ | refine zon fun _ => ?_ | refine zoa fun vr lr hr => ?_ | refine zoS (fun _ => ?_) (fun _ => ?_) | refine zqS (fun _ => ?_) (fun _ => ?_) | refine zwS (fun _ => ?_) (fun _ => ?_))
    refine aw_for (t0 := [(0, SV g n cp), (14, I i), (17, I m)]) (fun q t H => ∃ k : Nat, q = k + 1 ∧ i ≤ k ∧ k ≤ m ∧ t = [(0, SV g n cp), (14, I i), (17, I k)] ∧ H = RO f rs g n (rot d k m (m + 1)) :: R)
      ⟨m, rfl, by omega, by omega, rfl, by rw [down_none]⟩ (by repeat (first | exact sub_nil | refine sub_cons rfl ?_)) ?_
    rintro q t H ⟨k, rfl, hik, hkm, rfl, rfl⟩
    by_cases hk : i < k
    · have s1 : (rowT f rs n (rot d k m (m + 1)))[0 + ((k : Int)).toNat * 1]? = some (f (d m)) := by
        rw [rowT_at (i := k) (by omega) rfl, rot_lo (by omega) (by omega) hkm (by omega), show k + (m - k) = m by omega]
      have s2 : (rowT f rs n (rot d k m (m + 1)))[0 + ((k : Int) - 1).toNat * 1]? = some (f (d (k - 1))) := by
        rw [rowT_at (i := k - 1) (by omega) (by omega), rot_out (by omega)]
      have hsw := down_one (d := d) (i := m) (j := k - 1) (by omega)
      rw [show k - 1 + 1 = k by omega, ← upd_swp, rot_out (k := k - 1) (by omega), rot_lo (k := k) (by omega) (by omega) hkm (by omega), show k + (m - k) = m by omega] at hsw
      repeat' (first | refine zhn ?_ | refine ah_end ?_ | refine zhv ?_ | (apply ah_one; (exact rfl)) | (apply ah_two; (exact rfl); (exact rfl)) | (apply ah_three; (exact rfl); (exact rfl); (exact rfl)) | (apply aw_held (id := 23) (pl := (.t 0 (.t 1 (.t 2 (.t 3 (.t 4 (.t 5 (.t 6 (.t 7 (.t 8 (.t 10 (.t 11 (.t 12 (.w 9 (.o 13 (.t 14 (.o 15 (.t 16 (.o 17 .e))))) 13 (.o 9 (.t 14 (.o 15 (.t 16 (.o 17 .e))))))))))))))))))); (kernel_rfl); (kernel_rfl); (kernel_rfl); (solve | (apply hs_skip; exact List.Sublist.refl _))) | refine aw_seq ?_ | refine zv ?_ | (refine aw_is ?_; refine zwd ?_) | refine zhk ?_ | refine zhT ?_ | refine zhF ?_ | refine zon fun _ => ?_ | refine zoa fun vr lr hr => ?_ | ((refine ao_is ?_; apply ao_store; exact wants_a; (apply ow_storeT hC.flat (i := k); (exact rfl); omega; (exact rfl); exact has_a; omega); exact upd_a)) | ((refine ao_is ?_; apply ao_store; exact wants_a; (apply ow_storeT hC.flat (i := k - 1); (exact rfl); omega; (exact rfl); exact has_a; omega); exact upd_a)) | refine zoS (fun _ => ?_) (fun _ => ?_) | refine zqS (fun _ => ?_) (fun _ => ?_) | refine zwS (fun _ => ?_) (fun _ => ?_))
      all_goals
        rw [hsw, show ((k : Int) - 1) = ((k - 1 : Nat) : Int) by omega]
        exact lq_normal' ⟨k - 1, rfl, by omega, by omega, rfl, rfl⟩ (by omega) (by repeat (first | exact sub_nil | refine sub_cons rfl ?_)) (List.Sublist.refl _)
    · repeat' (first | refine aw_seq ?_ | refine zz ?_ | refine zon fun _ => ?_ | refine zoa fun vr lr hr => ?_ | refine zoS (fun _ => ?_) (fun _ => ?_) | refine zqS (fun _ => ?_) (fun _ => ?_) | refine zwS (fun _ => ?_) (fun _ => ?_))
      obtain rfl : i = k := by omega
      exact ⟨_, List.Sublist.refl _, _, (rot_mv hkm (by omega)).mono hi (Nat.le_refl _), h1.down hi hkm hlo hhi, rfl⟩
end Sst
end Go.Proofs.YtkjjlppfomidbaaGreat
/- Svd: Contracts of the library's stable sort over texts: the merge, whole; conditions: rows of at most 1,000,000 elements. -/
namespace Go.Proofs.YtkjjlppfomidbaaGreat
namespace Sst
open Go Go.RowKit Sx Srt
attribute [local irreducible] Go.Calls
variable {α : Type} {f : α → Value} {rs : List Value} {cp : Nat}
set_option maxHeartbeats 16000000 in
theorem sym_ok {c : FuncId} {pv : Value} [FnB Tryz.prog c] {lt : α → α → Prop} {x : α → Nat} {cmp : α → α → Int} {B : Nat} {w0 : World} {R : Hp} (hC : Cmp f c pv lt x cmp B w0 R) (g n : Nat) (hn : n ≤ 1000000) : ∀ (N a m b : Nat) (zm zb : Int) (d : Nat → α), zm = m → zb = b → b - a ≤ N → a < m → m < b → b ≤ n →
    Ord lt d a m → Ord lt d m b → Came x d a m b → ∀ (mm : Nat),
    CallsH Tryz.prog ⟨B, w0, mm⟩ 163 [SV g n cp, I a, I zm, I zb, FV c pv] ([RO f rs g n d] ++ R) (SortedTo lt f rs g n a b d R)
  | 0, a, m, b, _, _, _, _, _, h0, h1, h2, _, _, _, _ => by omega
  | N + 1, a, m, b, _, _, d, rfl, rfl, h0, ham, hmb, hb, h1, h2, hx => fun mm => by
    by_cases hA : m = a + 1
    · subst hA; exact sym_left hC g n a b d hmb hb hn h2 hx
    by_cases hB : b = m + 1
    · subst hB; exact sym_right hC g n a m d (by omega) hb hn h1 hx
    obtain ⟨mid, hmid⟩ : ∃ k : Nat, k = (a + b) / 2 := ⟨_, rfl⟩
    refine callsH0 (K := fun H' => ∃ e, Mv a b d e ∧ Ord lt e a b ∧ H' = RO f rs g n e :: R) Tryz.func163 rfl rfl rfl rfl ?_
    repeat' (first | refine aw_cutI_at (id := 32) (fun t H => ∃ lo hi : Nat, ((mid < m ∧ lo = mid + m - b ∧ hi = mid) ∨ (m ≤ mid ∧ lo = a ∧ hi = m)) ∧ t = [(0, SV g n cp), (1, I a), (2, I m), (3, I b), (4, FV c pv), (18, I mid), (19, I ((mid : Int) + (m : Int))), (20, I lo), (21, I hi)] ∧ H = RO f rs g n d :: R) ?_ ?_ | refine aw_cutI_at2 (id := 32) (fun t H => ∃ lo hi : Nat, ((mid < m ∧ lo = mid + m - b ∧ hi = mid) ∨ (m ≤ mid ∧ lo = a ∧ hi = m)) ∧ t = [(0, SV g n cp), (1, I a), (2, I m), (3, I b), (4, FV c pv), (18, I mid), (19, I ((mid : Int) + (m : Int))), (20, I lo), (21, I hi)] ∧ H = RO f rs g n d :: R) ?_ ?_ | refine aw_seq ?_ | ((first | apply ao_val | apply aq_val); exact wants_a; (first | exact ov_shrR 1 (mid : Int) rfl rfl rfl (by decide) (by omega) | exact ov_a); (exact rfl)) | refine zy ?_ | refine zon fun _ => ?_ | refine zoa fun vr lr hr => ?_)
    · by_cases hm : mid < m
      · repeat' (first | refine aw_seq ?_ | refine zz ?_ | refine zon fun _ => ?_ | refine zoa fun vr lr hr => ?_ | refine zoS (fun _ => ?_) (fun _ => ?_) | refine zqS (fun _ => ?_) (fun _ => ?_) | refine zwS (fun _ => ?_) (fun _ => ?_))
        exact ci_normal ⟨mid + m - b, mid, .inl ⟨hm, rfl, rfl⟩, rfl, rfl⟩ (by rw [show ((mid + m - b : Nat) : Int) = (mid : Int) + (m : Int) - (b : Int) by omega]; exact (by repeat (first | exact sub_nil | refine sub_cons rfl ?_))) (List.Sublist.refl _)
      · repeat' (first | refine aw_seq ?_ | refine zz ?_ | refine zon fun _ => ?_ | refine zoa fun vr lr hr => ?_ | refine zoS (fun _ => ?_) (fun _ => ?_) | refine zqS (fun _ => ?_) (fun _ => ?_) | refine zwS (fun _ => ?_) (fun _ => ?_))
        exact ci_normal ⟨a, m, .inr ⟨by omega, rfl, rfl⟩, rfl, rfl⟩ (by repeat (first | exact sub_nil | refine sub_cons rfl ?_)) (List.Sublist.refl _)
    rintro t H ⟨lo, hi, hor, rfl, rfl⟩
    have hlo : a ≤ lo ∧ lo ≤ hi ∧ hi ≤ mid ∧ hi ≤ m := by omega
    repeat' (first | refine aw_seq ?_ | refine zz ?_ | refine zon fun _ => ?_ | refine zoa fun vr lr hr => ?_ | refine zoS (fun _ => ?_) (fun _ => ?_) | refine zqS (fun _ => ?_) (fun _ => ?_) | refine zwS (fun _ => ?_) (fun _ => ?_))
    refine aw_for (t0 := [(0, SV g n cp), (1, I a), (2, I m), (3, I b), (4, FV c pv), (18, I mid), (19, I ((mid : Int) + (m : Int))), (20, I lo), (21, I hi), (22, I ((mid : Int) + (m : Int) - 1))])
      (fun q t H => ∃ s r : Nat, q = r - s ∧ lo ≤ s ∧ s ≤ r ∧ r ≤ hi ∧ (∀ k, lo ≤ k → k < s → lt (d k) (d (mid + m - 1 - k))) ∧ (∀ k, r ≤ k → k < hi → lt (d (mid + m - 1 - k)) (d k)) ∧ t = [(0, SV g n cp), (1, I a), (2, I m), (3, I b), (4, FV c pv), (18, I mid), (19, I ((mid : Int) + (m : Int))), (20, I s), (21, I r), (22, I ((mid : Int) + (m : Int) - 1))] ∧ H = RO f rs g n d :: R)
      ⟨lo, hi, rfl, by omega, by omega, by omega, fun k g1 g2 => by omega, fun k g1 g2 => by omega, rfl, rfl⟩ (by repeat (first | exact sub_nil | refine sub_cons rfl ?_)) ?_
    rintro q t H ⟨s, r, rfl, hls, hsr, hrh, hall1, hall2, rfl, rfl⟩
    by_cases hlt : s < r
    · obtain ⟨h, hh⟩ : ∃ h : Nat, h = (s + r) / 2 := ⟨_, rfl⟩
      have s1 := rowT_at (f := f) (rs := rs) (n := n) (d := d) (i := h) (by omega) (z := (h : Int)) rfl
      have s2 := rowT_at (f := f) (rs := rs) (n := n) (d := d) (i := mid + m - 1 - h) (by omega) (z := (mid : Int) + (m : Int) - 1 - (h : Int)) (by omega)
      have hcl := fun {H : Hp} {q : Nat} (hs : R.Sublist H) w (hw : RepH ⟨B, w0, q⟩ H w) => hC.call (d (mid + m - 1 - h)) (d h) q w (hw.sub hs)
      have hca := hx h (mid + m - 1 - h) (by omega) (by omega) (by omega) (by omega)
      cases hc : decide (cmp (d (mid + m - 1 - h)) (d h) < 0)
      · have hm := hC.more _ _ hca hc
        have hc2 : (!decide (cmp (d (mid + m - 1 - h)) (d h) < 0)) = true := by rw [hc]; rfl
        repeat' (first | refine aw_seq ?_ | ((first | apply ao_val | apply aq_val); exact wants_a; (first | exact ov_shrR 1 (h : Int) rfl rfl rfl (by decide) (by omega) | exact ov_a); (exact rfl)) | refine zy ?_ | refine zon fun _ => ?_ | refine zoa fun vr lr hr => ?_ | ((first | apply ao_call | apply aq_call); exact wants_a; (first | exact oc_func rfl | exact oc_clos rfl rfl | exact oc_bnd rfl rfl); (exact rfl); (first | exact fun w hw => hcl hsub_a w hw)) | refine zoS (fun _ => ?_) (fun _ => ?_) | refine zqS (fun _ => ?_) (fun _ => ?_) | refine zwS (fun _ => ?_) (fun _ => ?_))
        rw [show ((h : Int) + 1) = ((h + 1 : Nat) : Int) by omega]
        exact lq_normal' ⟨h + 1, r, rfl, by omega, by omega, hrh, fun k g1 g2 => h1.ltl hC.trans (by omega) (show k ≤ h by omega) (by omega) (h2.ltr hC.trans (i := mid + m - 1 - h) (by omega) (by omega) (by omega) hm), hall2, rfl, rfl⟩ (by omega) (by repeat (first | exact sub_nil | refine sub_cons rfl ?_)) (List.Sublist.refl _)
      · have hm := hC.less _ _ hca hc
        have hc2 : (!decide (cmp (d (mid + m - 1 - h)) (d h) < 0)) = false := by rw [hc]; rfl
        repeat' (first | refine aw_seq ?_ | ((first | apply ao_val | apply aq_val); exact wants_a; (first | exact ov_shrR 1 (h : Int) rfl rfl rfl (by decide) (by omega) | exact ov_a); (exact rfl)) | refine zy ?_ | refine zon fun _ => ?_ | refine zoa fun vr lr hr => ?_ | ((first | apply ao_call | apply aq_call); exact wants_a; (first | exact oc_func rfl | exact oc_clos rfl rfl | exact oc_bnd rfl rfl); (exact rfl); (first | exact fun w hw => hcl hsub_a w hw)) | refine zoS (fun _ => ?_) (fun _ => ?_) | refine zqS (fun _ => ?_) (fun _ => ?_) | refine zwS (fun _ => ?_) (fun _ => ?_))
        exact lq_normal' ⟨s, h, rfl, hls, by omega, by omega, hall1, fun k g1 g2 => h2.ltl hC.trans (by omega) (show mid + m - 1 - k ≤ mid + m - 1 - h by omega) (by omega) (h1.ltr hC.trans (by omega) g1 (by omega) hm), rfl, rfl⟩ (by omega) (by repeat (first | exact sub_nil | refine sub_cons rfl ?_)) (List.Sublist.refl _)
    · obtain rfl : s = r := by omega
      obtain ⟨⟨o1, o2, o3⟩, ⟨o4, o5, o6⟩, o7⟩ := sym_step (t := mid + m - s) (mid := mid) hC.trans h1 h2 hx (show a ≤ s by omega) (by omega) (by omega) (by omega) (by omega)
        (by
          by_cases e1 : s = lo
          · omega
          · refine .inr (.inr ?_)
            have := hall1 (s - 1) (by omega) (by omega)
            rwa [show mid + m - 1 - (s - 1) = mid + m - s by omega] at this)
        (by
          by_cases e1 : s = hi
          · omega
          · refine .inr (.inr ?_)
            have := hall2 s (by omega) (by omega)
            rwa [show mid + m - 1 - s = mid + m - s - 1 by omega] at this)
      have hmv1 : Mv a b d (rot d s m (mid + m - s)) := (rot_mv (by omega) (by omega)).mono (by omega) (by omega)
      generalize hd1 : rot d s m (mid + m - s) = d1 at o1 o2 o3 o4 o5 o6 o7 hmv1
      repeat' (first | refine aw_cutI_at (id := 41) (fun t H => t = [(0, SV g n cp), (1, I a), (3, I b), (4, FV c pv), (18, I mid), (20, I s), (24, I ((mid : Int) + (m : Int) - (s : Int)))] ∧ H = RO f rs g n d1 :: R) ?_ ?_ | refine aw_cutI_at2 (id := 41) (fun t H => t = [(0, SV g n cp), (1, I a), (3, I b), (4, FV c pv), (18, I mid), (20, I s), (24, I ((mid : Int) + (m : Int) - (s : Int)))] ∧ H = RO f rs g n d1 :: R) ?_ ?_ | refine aw_seq ?_ | refine zz ?_ | refine zon fun _ => ?_ | refine zoa fun vr lr hr => ?_)
      · by_cases q1 : s < m
        · by_cases q2 : m < mid + m - s
          · repeat' (first | refine aw_seq ?_ | refine zz ?_ | refine zon fun _ => ?_ | refine zoa fun vr lr hr => ?_ | (apply ao_callF; exact wants_a; (first | exact oc_func rfl | exact oc_clos rfl rfl | exact oc_bnd rfl rfl); (exact rfl); (first | exact rot_ok (rs := rs) hC.flat c pv g n s m (mid + m - s) _ (by omega) d q1 q2 (by omega) hn); exact cuts_a; intro _ hH; simp only [List.cons_append, List.nil_append] at hH; subst hH) | refine zoS (fun _ => ?_) (fun _ => ?_) | refine zqS (fun _ => ?_) (fun _ => ?_) | refine zwS (fun _ => ?_) (fun _ => ?_))
            rw [hd1]
            exact ci_normal ⟨rfl, rfl⟩ (by repeat (first | exact sub_nil | refine sub_cons rfl ?_)) (List.Sublist.refl _)
          · repeat' (first | refine aw_seq ?_ | refine zz ?_ | refine zon fun _ => ?_ | refine zoa fun vr lr hr => ?_ | refine zoS (fun _ => ?_) (fun _ => ?_) | refine zqS (fun _ => ?_) (fun _ => ?_) | refine zwS (fun _ => ?_) (fun _ => ?_))
            rw [show mid + m - s = m by omega, rot_none_r] at hd1
            subst hd1
            exact ci_normal ⟨rfl, rfl⟩ (by repeat (first | exact sub_nil | refine sub_cons rfl ?_)) (List.Sublist.refl _)
        · repeat' (first | refine aw_seq ?_ | refine zz ?_ | refine zon fun _ => ?_ | refine zoa fun vr lr hr => ?_ | refine zoS (fun _ => ?_) (fun _ => ?_) | refine zqS (fun _ => ?_) (fun _ => ?_) | refine zwS (fun _ => ?_) (fun _ => ?_))
          rw [show s = m by omega, rot_none_l] at hd1
          subst hd1
          exact ci_normal ⟨rfl, rfl⟩ (by repeat (first | exact sub_nil | refine sub_cons rfl ?_)) (List.Sublist.refl _)
      rintro t H ⟨rfl, rfl⟩
      repeat' (first | refine aw_cutI_at (id := 43) (fun t H => ∃ d2, Mv a mid d1 d2 ∧ Ord lt d2 a mid ∧ t = [(0, SV g n cp), (3, I b), (4, FV c pv), (18, I mid), (24, I ((mid : Int) + (m : Int) - (s : Int)))] ∧ H = RO f rs g n d2 :: R) ?_ ?_ | refine aw_cutI_at2 (id := 43) (fun t H => ∃ d2, Mv a mid d1 d2 ∧ Ord lt d2 a mid ∧ t = [(0, SV g n cp), (3, I b), (4, FV c pv), (18, I mid), (24, I ((mid : Int) + (m : Int) - (s : Int)))] ∧ H = RO f rs g n d2 :: R) ?_ ?_ | refine aw_seq ?_ | refine zz ?_ | refine zon fun _ => ?_ | refine zoa fun vr lr hr => ?_)
      · by_cases q1 : a < s
        · by_cases q2 : s < mid
          · repeat' (first | refine aw_seq ?_ | refine zz ?_ | refine zon fun _ => ?_ | refine zoa fun vr lr hr => ?_ | ((apply ao_callH; exact wants_a; (exact oc_func rfl); (exact rfl); (exact Cut.here1); (exact sym_ok hC g n hn N a s mid _ _ d1 rfl rfl (by omega) q1 q2 (by omega) o1 o2 o3 _); rintro _ _ ⟨rfl, d2, hmv2, hord2, rfl⟩)) | refine zoS (fun _ => ?_) (fun _ => ?_) | refine zqS (fun _ => ?_) (fun _ => ?_) | refine zwS (fun _ => ?_) (fun _ => ?_))
            exact ci_normal ⟨d2, hmv2, hord2, rfl, rfl⟩ (by repeat (first | exact sub_nil | refine sub_cons rfl ?_)) (List.Sublist.refl _)
          · repeat' (first | refine aw_seq ?_ | refine zz ?_ | refine zon fun _ => ?_ | refine zoa fun vr lr hr => ?_ | refine zoS (fun _ => ?_) (fun _ => ?_) | refine zqS (fun _ => ?_) (fun _ => ?_) | refine zwS (fun _ => ?_) (fun _ => ?_))
            exact ci_normal ⟨d1, .refl, o1.sub (Nat.le_refl _) (by omega), rfl, rfl⟩ (by repeat (first | exact sub_nil | refine sub_cons rfl ?_)) (List.Sublist.refl _)
        · repeat' (first | refine aw_seq ?_ | refine zz ?_ | refine zon fun _ => ?_ | refine zoa fun vr lr hr => ?_ | refine zoS (fun _ => ?_) (fun _ => ?_) | refine zqS (fun _ => ?_) (fun _ => ?_) | refine zwS (fun _ => ?_) (fun _ => ?_))
          exact ci_normal ⟨d1, .refl, o2.sub (by omega) (Nat.le_refl _), rfl, rfl⟩ (by repeat (first | exact sub_nil | refine sub_cons rfl ?_)) (List.Sublist.refl _)
      rintro t H ⟨d2, hmv2, hord2, rfl, rfl⟩
      have fin : ∀ e, Mv mid b d2 e → Ord lt e mid b → Mv a b d e ∧ Ord lt e a b := fun e g1 g2 =>
        ⟨(hmv1.trans (hmv2.mono (Nat.le_refl _) (by omega))).trans (g1.mono (by omega) (Nat.le_refl _)), (hord2.keep g1 (.inl (Nat.le_refl _))).join g2 (across_hi (across_lo o7 hmv2) g1)⟩
      have p4 := o4.keep hmv2 (.inr (Nat.le_refl _))
      have p5 := o5.keep hmv2 (.inr (by omega))
      have p6 : Came x d2 mid (mid + m - s) b := fun i j g1 g2 g3 g4 => by rw [hmv2.out (.inr g1), hmv2.out (.inr (by omega))]; exact o6 i j g1 g2 g3 g4
      by_cases q1 : mid < mid + m - s
      · by_cases q2 : mid + m - s < b
        · repeat' (first | refine aw_seq ?_ | refine zz ?_ | refine zon fun _ => ?_ | refine zoa fun vr lr hr => ?_ | ((apply ao_callH; exact wants_a; (exact oc_func rfl); (exact rfl); (exact Cut.here1); (exact sym_ok hC g n hn N mid (mid + m - s) b _ _ d2 (by omega) rfl (by omega) q1 q2 hb p4 p5 p6 _); rintro _ _ ⟨rfl, d3, hmv3, hord3, rfl⟩)) | refine zoS (fun _ => ?_) (fun _ => ?_) | refine zqS (fun _ => ?_) (fun _ => ?_) | refine zwS (fun _ => ?_) (fun _ => ?_))
          obtain ⟨f1, f2⟩ := fin d3 hmv3 hord3
          exact ⟨_, List.Sublist.refl _, d3, f1, f2, rfl⟩
        · repeat' (first | refine aw_seq ?_ | refine zz ?_ | refine zon fun _ => ?_ | refine zoa fun vr lr hr => ?_ | refine zoS (fun _ => ?_) (fun _ => ?_) | refine zqS (fun _ => ?_) (fun _ => ?_) | refine zwS (fun _ => ?_) (fun _ => ?_))
          obtain ⟨f1, f2⟩ := fin d2 .refl (p4.sub (Nat.le_refl _) (by omega))
          exact ⟨_, List.Sublist.refl _, d2, f1, f2, rfl⟩
      · repeat' (first | refine aw_seq ?_ | refine zz ?_ | refine zon fun _ => ?_ | refine zoa fun vr lr hr => ?_ | refine zoS (fun _ => ?_) (fun _ => ?_) | refine zqS (fun _ => ?_) (fun _ => ?_) | refine zwS (fun _ => ?_) (fun _ => ?_))
        obtain ⟨f1, f2⟩ := fin d2 .refl (p5.sub (by omega) (Nat.le_refl _))
        exact ⟨_, List.Sublist.refl _, d2, f1, f2, rfl⟩
end Sst
end Go.Proofs.YtkjjlppfomidbaaGreat
/- Sve: Contracts of the library's stable sort over texts: by blocks, whole; conditions: rows of at most 400,000 elements. -/
namespace Go.Proofs.YtkjjlppfomidbaaGreat
namespace Sst
open Go Go.RowKit Sx Srt
attribute [local irreducible] Go.Calls
variable {α : Type} {f : α → Value} {rs : List Value} {cp : Nat}
set_option maxHeartbeats 16000000 in
theorem stb_ok {c : FuncId} {pv : Value} [FnB Tryz.prog c] {lt : α → α → Prop} {x : α → Nat} {cmp : α → α → Int} {B mm : Nat} {w0 : World} {R : Hp} (hC : Cmp f c pv lt x cmp B w0 R) (g n : Nat) (hn : n ≤ 400000) (d : Nat → α) (hx : ∀ i j, i < j → j < n → x (d i) < x (d j)) :
    CallsH Tryz.prog ⟨B, w0, mm⟩ 136 [SV g n cp, I n, FV c pv] ([RO f rs g n d] ++ R) (SortedTo lt f rs g n 0 n d R) := by
  refine callsH0 (K := fun H' => ∃ e, Mv 0 n d e ∧ Ord lt e 0 n ∧ H' = RO f rs g n e :: R) Tryz.func136 rfl rfl rfl rfl ?_
  repeat' (first | refine aw_seq ?_ | refine zz ?_ | refine zon fun _ => ?_ | refine zoa fun vr lr hr => ?_ | refine zoS (fun _ => ?_) (fun _ => ?_) | refine zqS (fun _ => ?_) (fun _ => ?_) | refine zwS (fun _ => ?_) (fun _ => ?_))
  refine aw_for (t0 := [(0, SV g n cp), (1, I n), (2, FV c pv), (6, I 20), (7, I (0 : Nat)), (8, I (((0 : Nat) : Int) + 20))]) (fun q t H => ∃ (p : Nat) (e : Nat → α), q = n - p ∧ LayA lt x e n 20 p ∧ Mv 0 n d e ∧ t = [(0, SV g n cp), (1, I n), (2, FV c pv), (6, I 20), (7, I p), (8, I ((p : Int) + 20))] ∧ H = RO f rs g n e :: R)
    ⟨0, d, rfl, LayA.start hx, .refl, rfl, rfl⟩ (by repeat (first | exact sub_nil | refine sub_cons rfl ?_)) ?_
  rintro q t H ⟨p, e, rfl, hlay, hmv, rfl, rfl⟩
  have hpn := hlay.2.1
  by_cases hp : p + 20 ≤ n
  · repeat' (first | refine aw_seq ?_ | refine zz ?_ | refine zon fun _ => ?_ | refine zoa fun vr lr hr => ?_ | ((apply ao_callH; exact wants_a; (exact oc_func rfl); (exact rfl); (exact Cut.here1); (exact ins_ok hC g n p (p + 20) _ _ rfl (by omega) e (by omega) hp (by omega) (fun i j h1 h2 h3 => hlay.2.2.2.2 i j h1 h2 (by omega))); rintro _ _ ⟨rfl, e2, hmv2, hord2, rfl⟩)) | refine zoS (fun _ => ?_) (fun _ => ?_) | refine zqS (fun _ => ?_) (fun _ => ?_) | refine zwS (fun _ => ?_) (fun _ => ?_))
    rw [show ((p : Int) + 20) = ((p + 20 : Nat) : Int) by omega]
    exact lq_normal' ⟨p + 20, e2, rfl, hlay.step hp hmv2 hord2, hmv.trans (hmv2.mono (Nat.zero_le _) hp), rfl, rfl⟩ (by omega) (by repeat (first | exact sub_nil | refine sub_cons rfl ?_)) (List.Sublist.refl _)
  · repeat' (first | refine aw_seq ?_ | refine zz ?_ | refine zon fun _ => ?_ | refine zoa fun vr lr hr => ?_ | ((apply ao_callH; exact wants_a; (exact oc_func rfl); (exact rfl); (exact Cut.here1); (exact ins_ok hC g n p n _ _ rfl rfl e hpn (Nat.le_refl _) (by omega) (fun i j h1 h2 h3 => hlay.2.2.2.2 i j h1 h2 h3)); rintro _ _ ⟨rfl, e2, hmv2, hord2, rfl⟩)) | refine zoS (fun _ => ?_) (fun _ => ?_) | refine zqS (fun _ => ?_) (fun _ => ?_) | refine zwS (fun _ => ?_) (fun _ => ?_))
    have hl := hlay.done (by omega) hmv2 hord2
    have hmv3 := hmv.trans (hmv2.mono (Nat.zero_le _) (Nat.le_refl _))
    clear hlay hmv hmv2 hord2 hp hpn
    refine aw_for (t0 := [(0, SV g n cp), (1, I n), (2, FV c pv), (6, I (20 : Nat))]) (fun q t H => ∃ (s : Nat) (e : Nat → α), q = n - s ∧ 0 < s ∧ s ≤ 2 * n + 20 ∧ Lay lt x e n s ∧ Mv 0 n d e ∧ t = [(0, SV g n cp), (1, I n), (2, FV c pv), (6, I s)] ∧ H = RO f rs g n e :: R)
      ⟨20, e2, rfl, by omega, by omega, hl, hmv3, rfl, rfl⟩ (by repeat (first | exact sub_nil | refine sub_cons rfl ?_)) ?_
    rintro q t H ⟨s, e, rfl, hs0, hs, hlay, hmv, rfl, rfl⟩
    by_cases hsn : s < n
    · repeat' (first | refine aw_seq ?_ | refine zz ?_ | refine zon fun _ => ?_ | refine zoa fun vr lr hr => ?_ | refine zoS (fun _ => ?_) (fun _ => ?_) | refine zqS (fun _ => ?_) (fun _ => ?_) | refine zwS (fun _ => ?_) (fun _ => ?_))
      rw [show (2 * (s : Int)) = ((0 : Nat) : Int) + 2 * (s : Int) by omega]
      refine aw_for (t0 := [(0, SV g n cp), (1, I n), (2, FV c pv), (6, I s), (7, I (0 : Nat)), (8, I (((0 : Nat) : Int) + 2 * (s : Int)))]) (fun q t H => ∃ (p : Nat) (e : Nat → α), q = n - p ∧ LayB lt x e n s p ∧ Mv 0 n d e ∧ t = [(0, SV g n cp), (1, I n), (2, FV c pv), (6, I s), (7, I p), (8, I ((p : Int) + 2 * (s : Int)))] ∧ H = RO f rs g n e :: R)
        ⟨0, e, rfl, LayB.start hlay, hmv, rfl, rfl⟩ (by repeat (first | exact sub_nil | refine sub_cons rfl ?_)) ?_
      clear hlay hmv
      rintro q t H ⟨p, e, rfl, hlay, hmv, rfl, rfl⟩
      have hpn := hlay.2.1
      by_cases hp : p + 2 * s ≤ n
      · obtain ⟨r1, r2, r3⟩ := hlay.ready (b := p + 2 * s) hp (Nat.le_refl _) (by omega)
        repeat' (first | refine aw_seq ?_ | refine zz ?_ | refine zon fun _ => ?_ | refine zoa fun vr lr hr => ?_ | ((apply ao_callH; exact wants_a; (exact oc_func rfl); (exact rfl); (exact Cut.here1); (exact sym_ok hC g n (by omega) _ p (p + s) (p + 2 * s) _ _ e (by omega) (by omega) (Nat.le_refl _) (by omega) (by omega) hp r1 r2 r3 _); rintro _ _ ⟨rfl, e2, hmv2, hord2, rfl⟩)) | refine zoS (fun _ => ?_) (fun _ => ?_) | refine zqS (fun _ => ?_) (fun _ => ?_) | refine zwS (fun _ => ?_) (fun _ => ?_))
        rw [show ((p : Int) + 2 * (s : Int)) = ((p + 2 * s : Nat) : Int) by omega]
        exact lq_normal' ⟨p + 2 * s, e2, rfl, hlay.step hp hmv2 hord2, hmv.trans (hmv2.mono (Nat.zero_le _) hp), rfl, rfl⟩ (by omega) (by repeat (first | exact sub_nil | refine sub_cons rfl ?_)) (List.Sublist.refl _)
      · by_cases hp2 : p + s < n
        · obtain ⟨r1, r2, r3⟩ := hlay.ready (b := n) (Nat.le_refl _) (by omega) hp2
          repeat' (first | refine aw_seq ?_ | refine zz ?_ | refine zon fun _ => ?_ | refine zoa fun vr lr hr => ?_ | ((apply ao_callH; exact wants_a; (exact oc_func rfl); (exact rfl); (exact Cut.here1); (exact sym_ok hC g n (by omega) _ p (p + s) n _ _ e (by omega) rfl (Nat.le_refl _) (by omega) (by omega) (Nat.le_refl _) r1 r2 r3 _); rintro _ _ ⟨rfl, e2, hmv2, hord2, rfl⟩)) | refine zoS (fun _ => ?_) (fun _ => ?_) | refine zqS (fun _ => ?_) (fun _ => ?_) | refine zwS (fun _ => ?_) (fun _ => ?_))
          rw [show ((s : Int) * 2) = ((2 * s : Nat) : Int) by omega]
          exact lq_normal' ⟨2 * s, e2, rfl, by omega, by omega, hlay.done (by omega) hmv2 hord2, hmv.trans (hmv2.mono (Nat.zero_le _) (Nat.le_refl _)), rfl, rfl⟩ (by omega) (by repeat (first | exact sub_nil | refine sub_cons rfl ?_)) (List.Sublist.refl _)
        · repeat' (first | refine aw_seq ?_ | refine zz ?_ | refine zon fun _ => ?_ | refine zoa fun vr lr hr => ?_ | refine zoS (fun _ => ?_) (fun _ => ?_) | refine zqS (fun _ => ?_) (fun _ => ?_) | refine zwS (fun _ => ?_) (fun _ => ?_))
          rw [show ((s : Int) * 2) = ((2 * s : Nat) : Int) by omega]
          exact lq_normal' ⟨2 * s, e, rfl, by omega, by omega, hlay.done (by omega) .refl (hlay.last (by omega)), hmv, rfl, rfl⟩ (by omega) (by repeat (first | exact sub_nil | refine sub_cons rfl ?_)) (List.Sublist.refl _)
    · repeat' (first | refine aw_seq ?_ | refine zz ?_ | refine zon fun _ => ?_ | refine zoa fun vr lr hr => ?_ | refine zoS (fun _ => ?_) (fun _ => ?_) | refine zqS (fun _ => ?_) (fun _ => ?_) | refine zwS (fun _ => ?_) (fun _ => ?_))
      exact ⟨_, List.Sublist.refl _, e, hmv, hlay.all (by omega), rfl⟩
set_option maxHeartbeats 4000000 in
theorem sst_ok {c : FuncId} {pv : Value} [FnB Tryz.prog c] {lt : α → α → Prop} {x : α → Nat} {cmp : α → α → Int} {B mm : Nat} {w0 : World} {R : Hp} (hC : Cmp f c pv lt x cmp B w0 R) (g n : Nat) (hn : n ≤ 400000) (d : Nat → α) (hx : ∀ i j, i < j → j < n → x (d i) < x (d j)) :
    CallsH Tryz.prog ⟨B, w0, mm⟩ 107 [SV g n cp, FV c pv] ([RO f rs g n d] ++ R) (SortedTo lt f rs g n 0 n d R) := by
  refine callsH0 (K := fun H' => ∃ e, Mv 0 n d e ∧ Ord lt e 0 n ∧ H' = RO f rs g n e :: R) Tryz.func107 rfl rfl rfl rfl ?_
  repeat' (first | refine aw_seq ?_ | refine zz ?_ | refine zon fun _ => ?_ | refine zoa fun vr lr hr => ?_ | ((apply ao_callH; exact wants_a; (exact oc_func rfl); (exact rfl); (exact Cut.here1); (exact stb_ok hC g n hn d hx); rintro _ _ ⟨rfl, e2, hmv2, hord2, rfl⟩)) | refine zoS (fun _ => ?_) (fun _ => ?_) | refine zqS (fun _ => ?_) (fun _ => ?_) | refine zwS (fun _ => ?_) (fun _ => ?_))
  exact ⟨_, List.Sublist.refl _, e2, hmv2, hord2, rfl⟩
end Sst
end Go.Proofs.YtkjjlppfomidbaaGreat
