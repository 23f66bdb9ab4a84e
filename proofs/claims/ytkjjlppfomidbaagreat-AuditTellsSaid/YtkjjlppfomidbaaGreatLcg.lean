/- What is gone through of layer 13: scopes, deltas; conditions: none. -/
import Derived.Test.YtkjjlppfomidbaaGreatLcm
import Derived.Test.YtkjjlppfomidbaaGreatScpy
namespace Go.Proofs.YtkjjlppfomidbaaGreat
namespace Lct
open Go Go.RowKit Sx Vec Ojt Scp
attribute [local irreducible] Go.Calls
def fitSc (ss : List Sc) : Bool := decide (ss.length ≤ 20) && ss.all fun s => fitS (trms s.2)
theorem fitSc_wf {ss : List Sc} (h : fitSc ss = true) : ss.length ≤ 20 ∧ ∀ s ∈ ss, wfP s.2 := by
  unfold fitSc at h
  rw [Bool.and_eq_true, decide_eq_true_eq, List.all_eq_true] at h
  exact ⟨h.1, fun s hs => (Scp.fit_wf (h.2 s hs)).1⟩
set_option maxHeartbeats 8000000 in
theorem fits13_ok (v : Value) (ss : List Sc) (w : World) (hv : ScsAt w v ss) :
    Calls Tryz.prog 26 #[v] w fun e w' => e = .returned (.bool (fitSc ss)) ∧ Below w.heap.size w w' := by
  obtain ⟨a, cp, rfl, hat⟩ := OldRow.cells cellsSc_len hv.1
  refine calls1 (args := [.slice a ss.length cp]) Tryz.func26 rfl rfl rfl rfl ?_
  by_cases h60 : 20 < ss.length
  · rw [show fitSc ss = false by unfold fitSc; rw [decide_eq_false (by omega)]; rfl]
    repeat' (first | refine aw_seq ?_ | refine zz ?_ | refine zon fun _ => ?_ | refine zoa fun vr lr hr => ?_ | refine zoS (fun _ => ?_) (fun _ => ?_) | refine zqS (fun _ => ?_) (fun _ => ?_) | refine zwS (fun _ => ?_) (fun _ => ?_))
    exact fun w' hw => ⟨rfl, hw.below⟩
  repeat' (first | refine aw_seq ?_ | refine zz ?_ | refine zon fun _ => ?_ | refine zoa fun vr lr hr => ?_ | refine zoS (fun _ => ?_) (fun _ => ?_) | refine zqS (fun _ => ?_) (fun _ => ?_) | refine zwS (fun _ => ?_) (fun _ => ?_))
  refine aw_for (t0 := [(0, .slice a ss.length cp), (3, I (0 : Nat))]) (fun q t H => ∃ i : Nat, q = ss.length - i ∧ i ≤ ss.length ∧ (∀ (j : Nat) (e : Sc), j < i → ss[j]? = some e → fitS (trms e.2) = true) ∧ t = [(0, .slice a ss.length cp), (3, I i)] ∧ H = []) ⟨0, rfl, by omega, fun j p hj => by omega, rfl, rfl⟩ (by repeat (first | exact sub_nil | refine sub_cons rfl ?_)) ?_
  rintro q t H ⟨i, rfl, hi, hall, rfl, rfl⟩
  by_cases hlt : i < ss.length
  · obtain ⟨⟨u, sc⟩, he⟩ := getP hlt
    have m1 := List.mem_of_getElem? he
    obtain ⟨g, o1, rfl, hg, hc⟩ := hat i _ (i : Int) he rfl
    have c1 : w.cell? ⟨g, o1 + (i : Int).toNat * 1, none⟩ = some u := hc 0 _ rfl
    have hf := fun w' (hb : Below w.heap.size w w') => Scp.fits_ok u sc w' ((hv.2 _ m1).below hb)
    cases hq : fitS (trms sc)
    · rw [hq] at hf
      rw [show fitSc ss = false by
        unfold fitSc
        rw [show (ss.all fun s => fitS (trms s.2)) = false from List.all_eq_false.2 ⟨_, m1, by simp only; rw [hq]; decide⟩, Bool.and_false]]
      repeat' (first | refine aw_seq ?_ | refine zz ?_ | refine zon fun _ => ?_ | refine zoa fun vr lr hr => ?_ | ((first | apply ao_call | apply aq_call); exact wants_a; (first | exact oc_func rfl | exact oc_clos rfl rfl | exact oc_bnd rfl rfl); (exact rfl); (first | exact fun w hw => hf w hw.below)) | refine zoS (fun _ => ?_) (fun _ => ?_) | refine zqS (fun _ => ?_) (fun _ => ?_) | refine zwS (fun _ => ?_) (fun _ => ?_))
      exact fun w' hw => ⟨rfl, hw.below⟩
    · rw [hq] at hf
      repeat' (first | refine aw_seq ?_ | refine zz ?_ | refine zon fun _ => ?_ | refine zoa fun vr lr hr => ?_ | ((first | apply ao_call | apply aq_call); exact wants_a; (first | exact oc_func rfl | exact oc_clos rfl rfl | exact oc_bnd rfl rfl); (exact rfl); (first | exact fun w hw => hf w hw.below)) | refine zoS (fun _ => ?_) (fun _ => ?_) | refine zqS (fun _ => ?_) (fun _ => ?_) | refine zwS (fun _ => ?_) (fun _ => ?_))
      exact lq_normal' ⟨i + 1, rfl, by omega, fun j z hj hz => by
        by_cases e1 : j = i
        · subst e1; rw [he] at hz; cases hz; exact hq
        · exact hall j z (by omega) hz, rfl, rfl⟩ (by omega) (by repeat (first | exact sub_nil | refine sub_cons rfl ?_)) hsub_a
  · obtain rfl : i = ss.length := by omega
    rw [show fitSc ss = true by
      unfold fitSc
      rw [decide_eq_true (by omega), Bool.true_and, List.all_eq_true]
      exact fun e he => by
        obtain ⟨j, hj⟩ := List.getElem?_of_mem he
        exact hall j e (List.getElem?_eq_some_iff.1 hj).1 hj]
    repeat' (first | refine aw_seq ?_ | refine zz ?_ | refine zon fun _ => ?_ | refine zoa fun vr lr hr => ?_ | refine zoS (fun _ => ?_) (fun _ => ?_) | refine zqS (fun _ => ?_) (fun _ => ?_) | refine zwS (fun _ => ?_) (fun _ => ?_))
    exact fun w' hw => ⟨rfl, hw.below⟩
end Lct
end Go.Proofs.YtkjjlppfomidbaaGreat
