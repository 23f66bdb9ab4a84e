/- Contracts of the library's stable sort over objects: by blocks, whole; conditions: rows of at most 400,000 elements. -/
import Derived.Test.YtifibkddjebmoaaSro
namespace Go.Proofs.Ytifibkddjebmoaa
namespace Srw
open Go Go.RowKit Sx Srt
attribute [local irreducible] Go.Calls
variable {α : Type} {f : α → List Value}

set_option maxHeartbeats 16000000 in
theorem stb_ok {c : FuncId} [FnB Try.prog c] {lt : α → α → Prop} {x : α → Nat} {cmp : α → α → Int} (hC : Cmp f c lt x cmp) {B mm : Nat} {w0 : World} (g n : Nat) (hn : n ≤ 400000) (d : Nat → α) (hx : ∀ i j, i < j → j < n → x (d i) < x (d j)) (R : Hp) :
    CallsH Try.prog ⟨B, w0, mm⟩ 39 [SV g n, I n, FV c] ([RO f g n d] ++ R) (SortedTo lt f g n 0 n d R) := by
  refine callsH0 (K := fun H' => ∃ e, Mv 0 n d e ∧ Ord lt e 0 n ∧ H' = RO f g n e :: R) Try.func39 rfl rfl rfl rfl ?_
  repeat' (first | refine aw_seq ?_ | refine zz ?_ | refine zon fun _ => ?_ | refine zoa fun vr lr hr => ?_ | refine zoS (fun _ => ?_) (fun _ => ?_) | refine zqS (fun _ => ?_) (fun _ => ?_) | refine zwS (fun _ => ?_) (fun _ => ?_))
  refine aw_for (t0 := [(0, SV g n), (1, I n), (2, FV c), (6, I 20), (7, I (0 : Nat)), (8, I (((0 : Nat) : Int) + 20))]) (fun q t H => ∃ (p : Nat) (e : Nat → α), q = n - p ∧ LayA lt x e n 20 p ∧ Mv 0 n d e ∧ t = [(0, SV g n), (1, I n), (2, FV c), (6, I 20), (7, I p), (8, I ((p : Int) + 20))] ∧ H = RO f g n e :: R)
    ⟨0, d, rfl, LayA.start hx, .refl, rfl, rfl⟩ (by repeat (first | exact sub_nil | refine sub_cons rfl ?_)) ?_
  rintro q t H ⟨p, e, rfl, hlay, hmv, rfl, rfl⟩
  have hpn := hlay.2.1
  by_cases hp : p + 20 ≤ n
  · repeat' (first | refine aw_seq ?_ | refine zz ?_ | refine zon fun _ => ?_ | refine zoa fun vr lr hr => ?_ | ((apply ao_callH; exact wants_a; (exact oc_func rfl); (exact rfl); (exact Cut.here1); (exact ins_ok hC g n p (p + 20) _ _ rfl (by omega) e (by omega) hp (by omega) (fun i j h1 h2 h3 => hlay.2.2.2.2 i j h1 h2 (by omega)) R); rintro _ _ ⟨rfl, e2, hmv2, hord2, rfl⟩)) | refine zoS (fun _ => ?_) (fun _ => ?_) | refine zqS (fun _ => ?_) (fun _ => ?_) | refine zwS (fun _ => ?_) (fun _ => ?_))
    rw [show ((p : Int) + 20) = ((p + 20 : Nat) : Int) by omega]
    exact lq_normal' ⟨p + 20, e2, rfl, hlay.step hp hmv2 hord2, hmv.trans (hmv2.mono (Nat.zero_le _) hp), rfl, rfl⟩ (by omega) (by repeat (first | exact sub_nil | refine sub_cons rfl ?_)) (List.Sublist.refl _)
  · repeat' (first | refine aw_seq ?_ | refine zz ?_ | refine zon fun _ => ?_ | refine zoa fun vr lr hr => ?_ | ((apply ao_callH; exact wants_a; (exact oc_func rfl); (exact rfl); (exact Cut.here1); (exact ins_ok hC g n p n _ _ rfl rfl e hpn (Nat.le_refl _) (by omega) (fun i j h1 h2 h3 => hlay.2.2.2.2 i j h1 h2 h3) R); rintro _ _ ⟨rfl, e2, hmv2, hord2, rfl⟩)) | refine zoS (fun _ => ?_) (fun _ => ?_) | refine zqS (fun _ => ?_) (fun _ => ?_) | refine zwS (fun _ => ?_) (fun _ => ?_))
    have hl := hlay.done (by omega) hmv2 hord2
    have hmv3 := hmv.trans (hmv2.mono (Nat.zero_le _) (Nat.le_refl _))
    clear hlay hmv hmv2 hord2 hp hpn
    refine aw_for (t0 := [(0, SV g n), (1, I n), (2, FV c), (6, I (20 : Nat))]) (fun q t H => ∃ (s : Nat) (e : Nat → α), q = n - s ∧ 0 < s ∧ s ≤ 2 * n + 20 ∧ Lay lt x e n s ∧ Mv 0 n d e ∧ t = [(0, SV g n), (1, I n), (2, FV c), (6, I s)] ∧ H = RO f g n e :: R)
      ⟨20, e2, rfl, by omega, by omega, hl, hmv3, rfl, rfl⟩ (by repeat (first | exact sub_nil | refine sub_cons rfl ?_)) ?_
    rintro q t H ⟨s, e, rfl, hs0, hs, hlay, hmv, rfl, rfl⟩
    by_cases hsn : s < n
    · repeat' (first | refine aw_seq ?_ | refine zz ?_ | refine zon fun _ => ?_ | refine zoa fun vr lr hr => ?_ | refine zoS (fun _ => ?_) (fun _ => ?_) | refine zqS (fun _ => ?_) (fun _ => ?_) | refine zwS (fun _ => ?_) (fun _ => ?_))
      rw [show (2 * (s : Int)) = ((0 : Nat) : Int) + 2 * (s : Int) by omega]
      refine aw_for (t0 := [(0, SV g n), (1, I n), (2, FV c), (6, I s), (7, I (0 : Nat)), (8, I (((0 : Nat) : Int) + 2 * (s : Int)))]) (fun q t H => ∃ (p : Nat) (e : Nat → α), q = n - p ∧ LayB lt x e n s p ∧ Mv 0 n d e ∧ t = [(0, SV g n), (1, I n), (2, FV c), (6, I s), (7, I p), (8, I ((p : Int) + 2 * (s : Int)))] ∧ H = RO f g n e :: R)
        ⟨0, e, rfl, LayB.start hlay, hmv, rfl, rfl⟩ (by repeat (first | exact sub_nil | refine sub_cons rfl ?_)) ?_
      clear hlay hmv
      rintro q t H ⟨p, e, rfl, hlay, hmv, rfl, rfl⟩
      have hpn := hlay.2.1
      by_cases hp : p + 2 * s ≤ n
      · obtain ⟨r1, r2, r3⟩ := hlay.ready (b := p + 2 * s) hp (Nat.le_refl _) (by omega)
        repeat' (first | refine aw_seq ?_ | refine zz ?_ | refine zon fun _ => ?_ | refine zoa fun vr lr hr => ?_ | ((apply ao_callH; exact wants_a; (exact oc_func rfl); (exact rfl); (exact Cut.here1); (exact sym_ok hC g n (by omega) _ p (p + s) (p + 2 * s) _ _ e (by omega) (by omega) (Nat.le_refl _) (by omega) (by omega) hp r1 r2 r3 _ R); rintro _ _ ⟨rfl, e2, hmv2, hord2, rfl⟩)) | refine zoS (fun _ => ?_) (fun _ => ?_) | refine zqS (fun _ => ?_) (fun _ => ?_) | refine zwS (fun _ => ?_) (fun _ => ?_))
        rw [show ((p : Int) + 2 * (s : Int)) = ((p + 2 * s : Nat) : Int) by omega]
        exact lq_normal' ⟨p + 2 * s, e2, rfl, hlay.step hp hmv2 hord2, hmv.trans (hmv2.mono (Nat.zero_le _) hp), rfl, rfl⟩ (by omega) (by repeat (first | exact sub_nil | refine sub_cons rfl ?_)) (List.Sublist.refl _)
      · by_cases hp2 : p + s < n
        · obtain ⟨r1, r2, r3⟩ := hlay.ready (b := n) (Nat.le_refl _) (by omega) hp2
          repeat' (first | refine aw_seq ?_ | refine zz ?_ | refine zon fun _ => ?_ | refine zoa fun vr lr hr => ?_ | ((apply ao_callH; exact wants_a; (exact oc_func rfl); (exact rfl); (exact Cut.here1); (exact sym_ok hC g n (by omega) _ p (p + s) n _ _ e (by omega) rfl (Nat.le_refl _) (by omega) (by omega) (Nat.le_refl _) r1 r2 r3 _ R); rintro _ _ ⟨rfl, e2, hmv2, hord2, rfl⟩)) | refine zoS (fun _ => ?_) (fun _ => ?_) | refine zqS (fun _ => ?_) (fun _ => ?_) | refine zwS (fun _ => ?_) (fun _ => ?_))
          rw [show ((s : Int) * 2) = ((2 * s : Nat) : Int) by omega]
          exact lq_normal' ⟨2 * s, e2, rfl, by omega, by omega, hlay.done (by omega) hmv2 hord2, hmv.trans (hmv2.mono (Nat.zero_le _) (Nat.le_refl _)), rfl, rfl⟩ (by omega) (by repeat (first | exact sub_nil | refine sub_cons rfl ?_)) (List.Sublist.refl _)
        · repeat' (first | refine aw_seq ?_ | refine zz ?_ | refine zon fun _ => ?_ | refine zoa fun vr lr hr => ?_ | refine zoS (fun _ => ?_) (fun _ => ?_) | refine zqS (fun _ => ?_) (fun _ => ?_) | refine zwS (fun _ => ?_) (fun _ => ?_))
          rw [show ((s : Int) * 2) = ((2 * s : Nat) : Int) by omega]
          exact lq_normal' ⟨2 * s, e, rfl, by omega, by omega, hlay.done (by omega) .refl (hlay.last (by omega)), hmv, rfl, rfl⟩ (by omega) (by repeat (first | exact sub_nil | refine sub_cons rfl ?_)) (List.Sublist.refl _)
    · repeat' (first | refine aw_seq ?_ | refine zz ?_ | refine zon fun _ => ?_ | refine zoa fun vr lr hr => ?_ | refine zoS (fun _ => ?_) (fun _ => ?_) | refine zqS (fun _ => ?_) (fun _ => ?_) | refine zwS (fun _ => ?_) (fun _ => ?_))
      exact ⟨_, List.Sublist.refl _, e, hmv, hlay.all (by omega), rfl⟩

set_option maxHeartbeats 4000000 in
theorem sst_ok {c : FuncId} [FnB Try.prog c] {lt : α → α → Prop} {x : α → Nat} {cmp : α → α → Int} (hC : Cmp f c lt x cmp) {B mm : Nat} {w0 : World} (g n : Nat) (hn : n ≤ 400000) (d : Nat → α) (hx : ∀ i j, i < j → j < n → x (d i) < x (d j)) (R : Hp) :
    CallsH Try.prog ⟨B, w0, mm⟩ 23 [SV g n, FV c] ([RO f g n d] ++ R) (SortedTo lt f g n 0 n d R) := by
  refine callsH0 (K := fun H' => ∃ e, Mv 0 n d e ∧ Ord lt e 0 n ∧ H' = RO f g n e :: R) Try.func23 rfl rfl rfl rfl ?_
  repeat' (first | refine aw_seq ?_ | refine zz ?_ | refine zon fun _ => ?_ | refine zoa fun vr lr hr => ?_ | ((apply ao_callH; exact wants_a; (exact oc_func rfl); (exact rfl); (exact Cut.here1); (exact stb_ok hC g n hn d hx R); rintro _ _ ⟨rfl, e2, hmv2, hord2, rfl⟩)) | refine zoS (fun _ => ?_) (fun _ => ?_) | refine zqS (fun _ => ?_) (fun _ => ?_) | refine zwS (fun _ => ?_) (fun _ => ?_))
  exact ⟨_, List.Sublist.refl _, e2, hmv2, hord2, rfl⟩
end Srw
end Go.Proofs.Ytifibkddjebmoaa
