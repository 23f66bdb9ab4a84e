/- What is gone through, and the live question, of layer 7; conditions: none. -/
import Derived.Test.YtboimmfegeinaaaGreatEvz
namespace Go.Proofs.YtboimmfegeinaaaGreat
namespace Evt
open Go Go.RowKit Sx Lab Vec Ojt
attribute [local irreducible] Go.Calls

def fitE (o : Ob) (ps : List PO) : Bool := decide (ps.length ≤ 60) && ((ps.all fun p => fitO p.2) && fitO o)
theorem fitE_wf {o : Ob} {ps : List PO} (h : fitE o ps = true) (ho : numR o.rs) (hp : ∀ p ∈ ps, numR p.2.rs) : wfS o ∧ wfL ps ∧ ps.length ≤ 60 := by
  unfold fitE at h
  rw [Bool.and_eq_true, Bool.and_eq_true, decide_eq_true_eq, List.all_eq_true] at h
  have key : ∀ {o : Ob}, fitO o = true → numR o.rs → wfS o := fun {o} h hr => by
    have hw := (fit_wf h hr).1
    unfold fitO at h
    obtain ⟨h1, h2, h3, h4, h5, h6⟩ := of_decide_eq_true h
    exact ⟨by omega, by omega, by omega, by omega, hw.2.2.2.2⟩
  exact ⟨key h.2.2 ho, ⟨by omega, fun p hm => key (h.2.1 p hm) (hp p hm)⟩, h.1⟩

set_option maxHeartbeats 16000000 in
theorem fits_ok (kind : Int) (p : PO) (ver : Int) (v : Value) (ps : List PO) (w : World) (ho : ResAt w p.1 p.2.rs) (hv : ObjsAt w v ps) :
    Calls Tryz.prog 20 #[EV kind p ver v] w fun e w' => e = .returned (.bool (fitE p.2 ps)) ∧ Below w.heap.size w w' := by
  have hf := fun w' (hb : Below w.heap.size w w') => Ojt.fits_ok p.2 p.1 w' (ho.below hb)
  obtain ⟨x, o⟩ := p
  obtain ⟨k, s, n, over, c, tm, bs, rs⟩ := o
  simp only at ho hf ⊢
  obtain ⟨xa, xc, rfl⟩ := ho.len
  obtain ⟨a, cp, rfl, hat⟩ := OldRow.cells cellsO_len hv.1
  refine calls1 (args := [EV kind (.slice xa rs.length xc, ⟨k, s, n, over, c, tm, bs, rs⟩) ver (.slice a ps.length cp)]) Tryz.func20 rfl rfl rfl rfl ?_
  by_cases h60 : ps.length ≤ 60
  · repeat' (first | refine aw_seq ?_ | refine zz ?_ | refine zon fun _ => ?_ | refine zoa fun vr lr hr => ?_ | refine zoS (fun _ => ?_) (fun _ => ?_) | refine zqS (fun _ => ?_) (fun _ => ?_) | refine zwS (fun _ => ?_) (fun _ => ?_))
    refine aw_for (t0 := [(1, .pointer (some ⟨_, 0, none⟩)), (3, I (0 : Nat))]) (fun q t H => ∃ gb i : Nat, q = ps.length - i ∧ i ≤ ps.length ∧ (∀ (j : Nat) (p : PO), j < i → ps[j]? = some p → fitO p.2 = true) ∧ t = [(1, .pointer (some ⟨gb, 0, none⟩)), (3, I i)] ∧ H = [(gb, .cells #[I kind, S k, S s, S n, I over, S c, .bool tm, .bool bs, .slice xa rs.length xc, I ver, .slice a ps.length cp] 39)]) ⟨_, 0, rfl, by omega, fun j p hj => by omega, rfl, rfl⟩ (by repeat (first | exact sub_nil | refine sub_cons rfl ?_)) ?_
    rintro q t H ⟨gb, i, rfl, hi, hall, rfl, rfl⟩
    by_cases hlt : i < ps.length
    · obtain ⟨⟨y, r⟩, he⟩ := getP hlt
      obtain ⟨g, o1, rfl, hg, hc⟩ := hat i _ (i : Int) he rfl
      have cA : ∀ (j : Nat) z, [S r.k, S r.s, S r.n, I r.ver, S r.c, .bool r.tm, .bool r.bs, y][j]? = some z → w.cell? ⟨g, o1 + (i : Int).toNat * 8 + j, none⟩ = some z := hc
      have m1 := List.mem_of_getElem? he
      have hr := fun w' (hb : Below w.heap.size w w') => Ojt.fits_ok r y w' ((hv.2 _ m1).below hb)
      cases hq : fitO r
      · rw [show fitE ⟨k, s, n, over, c, tm, bs, rs⟩ ps = false by
          unfold fitE
          rw [show (ps.all fun p => fitO p.2) = false from List.all_eq_false.2 ⟨_, m1, by simp only; rw [hq]; decide⟩, Bool.false_and, Bool.and_false]]
        rw [hq] at hr
        repeat' (first | refine aw_seq ?_ | ((first | apply ao_val | apply aq_val); exact wants_a; (first | exact ov_load_oa rfl hg cA rfl | exact ov_a); (exact rfl)) | refine zy ?_ | refine zon fun _ => ?_ | refine zoa fun vr lr hr => ?_ | ((first | apply ao_call | apply aq_call); exact wants_a; (first | exact oc_func rfl | exact oc_clos rfl rfl); (exact rfl); (first | exact fun w hw => hr w hw.below)) | refine zoS (fun _ => ?_) (fun _ => ?_) | refine zqS (fun _ => ?_) (fun _ => ?_) | refine zwS (fun _ => ?_) (fun _ => ?_))
        exact fun w' hw => ⟨rfl, hw.below⟩
      · rw [hq] at hr
        repeat' (first | refine aw_seq ?_ | ((first | apply ao_val | apply aq_val); exact wants_a; (first | exact ov_load_oa rfl hg cA rfl | exact ov_a); (exact rfl)) | refine zy ?_ | refine zon fun _ => ?_ | refine zoa fun vr lr hr => ?_ | ((first | apply ao_call | apply aq_call); exact wants_a; (first | exact oc_func rfl | exact oc_clos rfl rfl); (exact rfl); (first | exact fun w hw => hr w hw.below)) | refine zoS (fun _ => ?_) (fun _ => ?_) | refine zqS (fun _ => ?_) (fun _ => ?_) | refine zwS (fun _ => ?_) (fun _ => ?_))
        exact lq_normal' ⟨gb, i + 1, rfl, by omega, fun j z hj hz => by
          by_cases e1 : j = i
          · subst e1; rw [he] at hz; cases hz; exact hq
          · exact hall j z (by omega) hz, rfl, rfl⟩ (by omega) (by repeat (first | exact sub_nil | refine sub_cons rfl ?_)) hsub_a
    · obtain rfl : i = ps.length := by omega
      rw [show fitE ⟨k, s, n, over, c, tm, bs, rs⟩ ps = fitO ⟨k, s, n, over, c, tm, bs, rs⟩ by
        unfold fitE
        rw [show (ps.all fun p => fitO p.2) = true from List.all_eq_true.2 fun p hp => by
          obtain ⟨j, hj⟩ := List.getElem?_of_mem hp
          exact hall j p (List.getElem?_eq_some_iff.1 hj).1 hj, decide_eq_true h60]
        rfl]
      repeat' (first | refine aw_seq ?_ | refine zz ?_ | refine zon fun _ => ?_ | refine zoa fun vr lr hr => ?_ | ((first | apply ao_call | apply aq_call); exact wants_a; (first | exact oc_func rfl | exact oc_clos rfl rfl); (exact rfl); (first | exact fun w hw => hf w hw.below)) | refine zoS (fun _ => ?_) (fun _ => ?_) | refine zqS (fun _ => ?_) (fun _ => ?_) | refine zwS (fun _ => ?_) (fun _ => ?_))
      exact fun w' hw => ⟨rfl, hw.below⟩
  · rw [show fitE ⟨k, s, n, over, c, tm, bs, rs⟩ ps = false by unfold fitE; rw [decide_eq_false h60]; rfl]
    repeat' (first | refine aw_seq ?_ | refine zz ?_ | refine zon fun _ => ?_ | refine zoa fun vr lr hr => ?_ | refine zoS (fun _ => ?_) (fun _ => ?_) | refine zqS (fun _ => ?_) (fun _ => ?_) | refine zwS (fun _ => ?_) (fun _ => ?_))
    exact fun w' hw => ⟨rfl, hw.below⟩
end Evt
end Go.Proofs.YtboimmfegeinaaaGreat
