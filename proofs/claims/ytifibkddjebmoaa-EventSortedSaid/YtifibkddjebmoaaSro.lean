/- Contracts of the library's stable sort over objects: the merge, whole; conditions: rows of at most 1,000,000 elements. -/
import Derived.Test.YtifibkddjebmoaaSrn
namespace Go.Proofs.Ytifibkddjebmoaa
namespace Srw
open Go Go.RowKit Sx Srt
attribute [local irreducible] Go.Calls
variable {α : Type} {f : α → List Value}

set_option maxHeartbeats 16000000 in
theorem sym_ok {c : FuncId} [FnB Try.prog c] {lt : α → α → Prop} {x : α → Nat} {cmp : α → α → Int} (hC : Cmp f c lt x cmp) {B : Nat} {w0 : World} (g n : Nat) (hn : n ≤ 1000000) : ∀ (N a m b : Nat) (zm zb : Int) (d : Nat → α), zm = m → zb = b → b - a ≤ N → a < m → m < b → b ≤ n →
    Ord lt d a m → Ord lt d m b → Came x d a m b → ∀ (mm : Nat) (R : Hp),
    CallsH Try.prog ⟨B, w0, mm⟩ 47 [SV g n, I a, I zm, I zb, FV c] ([RO f g n d] ++ R) (SortedTo lt f g n a b d R)
  | 0, a, m, b, _, _, _, _, _, h0, h1, h2, _, _, _, _ => by omega
  | N + 1, a, m, b, _, _, d, rfl, rfl, h0, ham, hmb, hb, h1, h2, hx => fun mm R => by
    by_cases hA : m = a + 1
    · subst hA; exact sym_left hC g n a b d hmb hb hn h2 hx R
    by_cases hB : b = m + 1
    · subst hB; exact sym_right hC g n a m d (by omega) hb hn h1 hx R
    obtain ⟨mid, hmid⟩ : ∃ k : Nat, k = (a + b) / 2 := ⟨_, rfl⟩
    refine callsH0 (K := fun H' => ∃ e, Mv a b d e ∧ Ord lt e a b ∧ H' = RO f g n e :: R) Try.func47 rfl rfl rfl rfl ?_
    repeat' (first | refine aw_cutI_at (id := 32) (fun t H => ∃ lo hi : Nat, ((mid < m ∧ lo = mid + m - b ∧ hi = mid) ∨ (m ≤ mid ∧ lo = a ∧ hi = m)) ∧ t = [(0, SV g n), (1, I a), (2, I m), (3, I b), (4, FV c), (18, I mid), (19, I ((mid : Int) + (m : Int))), (20, I lo), (21, I hi)] ∧ H = RO f g n d :: R) ?_ ?_ | refine aw_cutI_at2 (id := 32) (fun t H => ∃ lo hi : Nat, ((mid < m ∧ lo = mid + m - b ∧ hi = mid) ∨ (m ≤ mid ∧ lo = a ∧ hi = m)) ∧ t = [(0, SV g n), (1, I a), (2, I m), (3, I b), (4, FV c), (18, I mid), (19, I ((mid : Int) + (m : Int))), (20, I lo), (21, I hi)] ∧ H = RO f g n d :: R) ?_ ?_ | refine aw_seq ?_ | ((first | apply ao_val | apply aq_val); exact wants_a; (first | exact ov_shrR 1 (mid : Int) rfl rfl rfl (by decide) (by omega) | exact ov_a); (exact rfl)) | refine zy ?_ | refine zon fun _ => ?_ | refine zoa fun vr lr hr => ?_)
    · by_cases hm : mid < m
      · repeat' (first | refine aw_seq ?_ | refine zz ?_ | refine zon fun _ => ?_ | refine zoa fun vr lr hr => ?_ | refine zoS (fun _ => ?_) (fun _ => ?_) | refine zqS (fun _ => ?_) (fun _ => ?_) | refine zwS (fun _ => ?_) (fun _ => ?_))
        exact ci_normal ⟨mid + m - b, mid, .inl ⟨hm, rfl, rfl⟩, rfl, rfl⟩ (by rw [show ((mid + m - b : Nat) : Int) = (mid : Int) + (m : Int) - (b : Int) by omega]; exact (by repeat (first | exact sub_nil | refine sub_cons rfl ?_))) (List.Sublist.refl _)
      · repeat' (first | refine aw_seq ?_ | refine zz ?_ | refine zon fun _ => ?_ | refine zoa fun vr lr hr => ?_ | refine zoS (fun _ => ?_) (fun _ => ?_) | refine zqS (fun _ => ?_) (fun _ => ?_) | refine zwS (fun _ => ?_) (fun _ => ?_))
        exact ci_normal ⟨a, m, .inr ⟨by omega, rfl, rfl⟩, rfl, rfl⟩ (by repeat (first | exact sub_nil | refine sub_cons rfl ?_)) (List.Sublist.refl _)
    rintro t H ⟨lo, hi, hor, rfl, rfl⟩
    have hlo : a ≤ lo ∧ lo ≤ hi ∧ hi ≤ mid ∧ hi ≤ m := by omega
    repeat' (first | refine aw_seq ?_ | refine zz ?_ | refine zon fun _ => ?_ | refine zoa fun vr lr hr => ?_ | refine zoS (fun _ => ?_) (fun _ => ?_) | refine zqS (fun _ => ?_) (fun _ => ?_) | refine zwS (fun _ => ?_) (fun _ => ?_))
    refine aw_for (t0 := [(0, SV g n), (1, I a), (2, I m), (3, I b), (4, FV c), (18, I mid), (19, I ((mid : Int) + (m : Int))), (20, I lo), (21, I hi), (22, I ((mid : Int) + (m : Int) - 1))])
      (fun q t H => ∃ s r : Nat, q = r - s ∧ lo ≤ s ∧ s ≤ r ∧ r ≤ hi ∧ (∀ k, lo ≤ k → k < s → lt (d k) (d (mid + m - 1 - k))) ∧ (∀ k, r ≤ k → k < hi → lt (d (mid + m - 1 - k)) (d k)) ∧ t = [(0, SV g n), (1, I a), (2, I m), (3, I b), (4, FV c), (18, I mid), (19, I ((mid : Int) + (m : Int))), (20, I s), (21, I r), (22, I ((mid : Int) + (m : Int) - 1))] ∧ H = RO f g n d :: R)
      ⟨lo, hi, rfl, by omega, by omega, by omega, fun k g1 g2 => by omega, fun k g1 g2 => by omega, rfl, rfl⟩ (by repeat (first | exact sub_nil | refine sub_cons rfl ?_)) ?_
    rintro q t H ⟨s, r, rfl, hls, hsr, hrh, hall1, hall2, rfl, rfl⟩
    by_cases hlt : s < r
    · obtain ⟨h, hh⟩ : ∃ h : Nat, h = (s + r) / 2 := ⟨_, rfl⟩
      have s1 := rowL_sl (f := f) (n := n) hC.len (by omega) (d := d) (i := h) (by omega) (z := (h : Int)) rfl
      have s2 := rowL_sl (f := f) (n := n) hC.len (by omega) (d := d) (i := mid + m - 1 - h) (by omega) (z := (mid : Int) + (m : Int) - 1 - (h : Int)) (by omega)
      have hcl := fun w => hC.call (d (mid + m - 1 - h)) (d h) w
      have hca := hx h (mid + m - 1 - h) (by omega) (by omega) (by omega) (by omega)
      cases hc : decide (cmp (d (mid + m - 1 - h)) (d h) < 0)
      · have hm := hC.more _ _ hca hc
        have hc2 : (!decide (cmp (d (mid + m - 1 - h)) (d h) < 0)) = true := by rw [hc]; rfl
        repeat' (first | refine aw_seq ?_ | ((first | apply ao_val | apply aq_val); exact wants_a; (first | exact ov_shrR 1 (h : Int) rfl rfl rfl (by decide) (by omega) | exact ov_a); (exact rfl)) | refine zy ?_ | refine zon fun _ => ?_ | refine zoa fun vr lr hr => ?_ | ((first | apply ao_call | apply aq_call); exact wants_a; (first | exact oc_func rfl | exact oc_clos rfl rfl); (exact rfl); (first | exact fun w hw => hcl w)) | refine zoS (fun _ => ?_) (fun _ => ?_) | refine zqS (fun _ => ?_) (fun _ => ?_) | refine zwS (fun _ => ?_) (fun _ => ?_))
        rw [show ((h : Int) + 1) = ((h + 1 : Nat) : Int) by omega]
        exact lq_normal' ⟨h + 1, r, rfl, by omega, by omega, hrh, fun k g1 g2 => h1.ltl hC.trans (by omega) (show k ≤ h by omega) (by omega) (h2.ltr hC.trans (i := mid + m - 1 - h) (by omega) (by omega) (by omega) hm), hall2, rfl, rfl⟩ (by omega) (by repeat (first | exact sub_nil | refine sub_cons rfl ?_)) (List.Sublist.refl _)
      · have hm := hC.less _ _ hca hc
        have hc2 : (!decide (cmp (d (mid + m - 1 - h)) (d h) < 0)) = false := by rw [hc]; rfl
        repeat' (first | refine aw_seq ?_ | ((first | apply ao_val | apply aq_val); exact wants_a; (first | exact ov_shrR 1 (h : Int) rfl rfl rfl (by decide) (by omega) | exact ov_a); (exact rfl)) | refine zy ?_ | refine zon fun _ => ?_ | refine zoa fun vr lr hr => ?_ | ((first | apply ao_call | apply aq_call); exact wants_a; (first | exact oc_func rfl | exact oc_clos rfl rfl); (exact rfl); (first | exact fun w hw => hcl w)) | refine zoS (fun _ => ?_) (fun _ => ?_) | refine zqS (fun _ => ?_) (fun _ => ?_) | refine zwS (fun _ => ?_) (fun _ => ?_))
        exact lq_normal' ⟨s, h, rfl, hls, by omega, by omega, hall1, fun k g1 g2 => h2.ltl hC.trans (by omega) (show mid + m - 1 - k ≤ mid + m - 1 - h by omega) (by omega) (h1.ltr hC.trans (by omega) g1 (by omega) hm), rfl, rfl⟩ (by omega) (by repeat (first | exact sub_nil | refine sub_cons rfl ?_)) (List.Sublist.refl _)
    · obtain rfl : s = r := by omega
      obtain ⟨⟨o1, o2, o3⟩, ⟨o4, o5, o6⟩, o7⟩ := sym_step (t := mid + m - s) (mid := mid) hC.trans h1 h2 hx (show a ≤ s by omega) (by omega) (by omega) (by omega) (by omega)
        (by
          by_cases e1 : s = lo
          · omega
          · refine .inr (.inr ?_)
            have := hall1 (s - 1) (by omega) (by omega)
            rwa [show mid + m - 1 - (s - 1) = mid + m - s by omega] at this)
        (by
          by_cases e1 : s = hi
          · omega
          · refine .inr (.inr ?_)
            have := hall2 s (by omega) (by omega)
            rwa [show mid + m - 1 - s = mid + m - s - 1 by omega] at this)
      have hmv1 : Mv a b d (rot d s m (mid + m - s)) := (rot_mv (by omega) (by omega)).mono (by omega) (by omega)
      generalize hd1 : rot d s m (mid + m - s) = d1 at o1 o2 o3 o4 o5 o6 o7 hmv1
      repeat' (first | refine aw_cutI_at (id := 41) (fun t H => t = [(0, SV g n), (1, I a), (3, I b), (4, FV c), (18, I mid), (20, I s), (24, I ((mid : Int) + (m : Int) - (s : Int)))] ∧ H = RO f g n d1 :: R) ?_ ?_ | refine aw_cutI_at2 (id := 41) (fun t H => t = [(0, SV g n), (1, I a), (3, I b), (4, FV c), (18, I mid), (20, I s), (24, I ((mid : Int) + (m : Int) - (s : Int)))] ∧ H = RO f g n d1 :: R) ?_ ?_ | refine aw_seq ?_ | refine zz ?_ | refine zon fun _ => ?_ | refine zoa fun vr lr hr => ?_)
      · by_cases q1 : s < m
        · by_cases q2 : m < mid + m - s
          · repeat' (first | refine aw_seq ?_ | refine zz ?_ | refine zon fun _ => ?_ | refine zoa fun vr lr hr => ?_ | (apply ao_callF; exact wants_a; (first | exact oc_func rfl | exact oc_clos rfl rfl); (exact rfl); (first | exact rot_ok hC.len hC.flat c g n s m (mid + m - s) _ (by omega) d q1 q2 (by omega) hn); exact cuts_a; intro _ hH; simp only [List.cons_append, List.nil_append] at hH; subst hH) | refine zoS (fun _ => ?_) (fun _ => ?_) | refine zqS (fun _ => ?_) (fun _ => ?_) | refine zwS (fun _ => ?_) (fun _ => ?_))
            rw [hd1]
            exact ci_normal ⟨rfl, rfl⟩ (by repeat (first | exact sub_nil | refine sub_cons rfl ?_)) (List.Sublist.refl _)
          · repeat' (first | refine aw_seq ?_ | refine zz ?_ | refine zon fun _ => ?_ | refine zoa fun vr lr hr => ?_ | refine zoS (fun _ => ?_) (fun _ => ?_) | refine zqS (fun _ => ?_) (fun _ => ?_) | refine zwS (fun _ => ?_) (fun _ => ?_))
            rw [show mid + m - s = m by omega, rot_none_r] at hd1
            subst hd1
            exact ci_normal ⟨rfl, rfl⟩ (by repeat (first | exact sub_nil | refine sub_cons rfl ?_)) (List.Sublist.refl _)
        · repeat' (first | refine aw_seq ?_ | refine zz ?_ | refine zon fun _ => ?_ | refine zoa fun vr lr hr => ?_ | refine zoS (fun _ => ?_) (fun _ => ?_) | refine zqS (fun _ => ?_) (fun _ => ?_) | refine zwS (fun _ => ?_) (fun _ => ?_))
          rw [show s = m by omega, rot_none_l] at hd1
          subst hd1
          exact ci_normal ⟨rfl, rfl⟩ (by repeat (first | exact sub_nil | refine sub_cons rfl ?_)) (List.Sublist.refl _)
      rintro t H ⟨rfl, rfl⟩
      repeat' (first | refine aw_cutI_at (id := 43) (fun t H => ∃ d2, Mv a mid d1 d2 ∧ Ord lt d2 a mid ∧ t = [(0, SV g n), (3, I b), (4, FV c), (18, I mid), (24, I ((mid : Int) + (m : Int) - (s : Int)))] ∧ H = RO f g n d2 :: R) ?_ ?_ | refine aw_cutI_at2 (id := 43) (fun t H => ∃ d2, Mv a mid d1 d2 ∧ Ord lt d2 a mid ∧ t = [(0, SV g n), (3, I b), (4, FV c), (18, I mid), (24, I ((mid : Int) + (m : Int) - (s : Int)))] ∧ H = RO f g n d2 :: R) ?_ ?_ | refine aw_seq ?_ | refine zz ?_ | refine zon fun _ => ?_ | refine zoa fun vr lr hr => ?_)
      · by_cases q1 : a < s
        · by_cases q2 : s < mid
          · repeat' (first | refine aw_seq ?_ | refine zz ?_ | refine zon fun _ => ?_ | refine zoa fun vr lr hr => ?_ | ((apply ao_callH; exact wants_a; (exact oc_func rfl); (exact rfl); (exact Cut.here1); (exact sym_ok hC g n hn N a s mid _ _ d1 rfl rfl (by omega) q1 q2 (by omega) o1 o2 o3 _ R); rintro _ _ ⟨rfl, d2, hmv2, hord2, rfl⟩)) | refine zoS (fun _ => ?_) (fun _ => ?_) | refine zqS (fun _ => ?_) (fun _ => ?_) | refine zwS (fun _ => ?_) (fun _ => ?_))
            exact ci_normal ⟨d2, hmv2, hord2, rfl, rfl⟩ (by repeat (first | exact sub_nil | refine sub_cons rfl ?_)) (List.Sublist.refl _)
          · repeat' (first | refine aw_seq ?_ | refine zz ?_ | refine zon fun _ => ?_ | refine zoa fun vr lr hr => ?_ | refine zoS (fun _ => ?_) (fun _ => ?_) | refine zqS (fun _ => ?_) (fun _ => ?_) | refine zwS (fun _ => ?_) (fun _ => ?_))
            exact ci_normal ⟨d1, .refl, o1.sub (Nat.le_refl _) (by omega), rfl, rfl⟩ (by repeat (first | exact sub_nil | refine sub_cons rfl ?_)) (List.Sublist.refl _)
        · repeat' (first | refine aw_seq ?_ | refine zz ?_ | refine zon fun _ => ?_ | refine zoa fun vr lr hr => ?_ | refine zoS (fun _ => ?_) (fun _ => ?_) | refine zqS (fun _ => ?_) (fun _ => ?_) | refine zwS (fun _ => ?_) (fun _ => ?_))
          exact ci_normal ⟨d1, .refl, o2.sub (by omega) (Nat.le_refl _), rfl, rfl⟩ (by repeat (first | exact sub_nil | refine sub_cons rfl ?_)) (List.Sublist.refl _)
      rintro t H ⟨d2, hmv2, hord2, rfl, rfl⟩
      have fin : ∀ e, Mv mid b d2 e → Ord lt e mid b → Mv a b d e ∧ Ord lt e a b := fun e g1 g2 =>
        ⟨(hmv1.trans (hmv2.mono (Nat.le_refl _) (by omega))).trans (g1.mono (by omega) (Nat.le_refl _)), (hord2.keep g1 (.inl (Nat.le_refl _))).join g2 (across_hi (across_lo o7 hmv2) g1)⟩
      have p4 := o4.keep hmv2 (.inr (Nat.le_refl _))
      have p5 := o5.keep hmv2 (.inr (by omega))
      have p6 : Came x d2 mid (mid + m - s) b := fun i j g1 g2 g3 g4 => by rw [hmv2.out (.inr g1), hmv2.out (.inr (by omega))]; exact o6 i j g1 g2 g3 g4
      by_cases q1 : mid < mid + m - s
      · by_cases q2 : mid + m - s < b
        · repeat' (first | refine aw_seq ?_ | refine zz ?_ | refine zon fun _ => ?_ | refine zoa fun vr lr hr => ?_ | ((apply ao_callH; exact wants_a; (exact oc_func rfl); (exact rfl); (exact Cut.here1); (exact sym_ok hC g n hn N mid (mid + m - s) b _ _ d2 (by omega) rfl (by omega) q1 q2 hb p4 p5 p6 _ R); rintro _ _ ⟨rfl, d3, hmv3, hord3, rfl⟩)) | refine zoS (fun _ => ?_) (fun _ => ?_) | refine zqS (fun _ => ?_) (fun _ => ?_) | refine zwS (fun _ => ?_) (fun _ => ?_))
          obtain ⟨f1, f2⟩ := fin d3 hmv3 hord3
          exact ⟨_, List.Sublist.refl _, d3, f1, f2, rfl⟩
        · repeat' (first | refine aw_seq ?_ | refine zz ?_ | refine zon fun _ => ?_ | refine zoa fun vr lr hr => ?_ | refine zoS (fun _ => ?_) (fun _ => ?_) | refine zqS (fun _ => ?_) (fun _ => ?_) | refine zwS (fun _ => ?_) (fun _ => ?_))
          obtain ⟨f1, f2⟩ := fin d2 .refl (p4.sub (Nat.le_refl _) (by omega))
          exact ⟨_, List.Sublist.refl _, d2, f1, f2, rfl⟩
      · repeat' (first | refine aw_seq ?_ | refine zz ?_ | refine zon fun _ => ?_ | refine zoa fun vr lr hr => ?_ | refine zoS (fun _ => ?_) (fun _ => ?_) | refine zqS (fun _ => ?_) (fun _ => ?_) | refine zwS (fun _ => ?_) (fun _ => ?_))
        obtain ⟨f1, f2⟩ := fin d2 .refl (p5.sub (by omega) (Nat.le_refl _))
        exact ⟨_, List.Sublist.refl _, d2, f1, f2, rfl⟩
end Srw
end Go.Proofs.Ytifibkddjebmoaa
