/- Lists of events, and which are gone through, of layer 8; conditions: none. -/
import Derived.Test.YtboimmfegeinaaaGreatEvl
import Derived.Test.YtboimmfegeinaaaGreatCsx
namespace Go.Proofs.YtboimmfegeinaaaGreat
namespace Chm
open Go Go.RowKit Sx Lab Vec Ojt Evt
attribute [local irreducible] Go.Calls

/-- An event, and where its charges and its objects lie. -/
structure PE where
  kind : Int
  p : PO
  ver : Int
  v : Value
  qs : List PO
def cellsE (e : PE) : List Value := [I e.kind, S e.p.2.k, S e.p.2.s, S e.p.2.n, I e.p.2.ver, S e.p.2.c, .bool e.p.2.tm, .bool e.p.2.bs, e.p.1, I e.ver, e.v]
theorem cellsE_len (e : PE) : (cellsE e).length = 11 := rfl
def evE (e : PE) : Ev := ⟨e.kind, e.p.2, e.ver, obs e.qs⟩
/-- Events that came in. -/
def EvsAt (w : World) (v : Value) (es : List PE) : Prop := OldRow w 11 v es.length (es.flatMap cellsE) ∧ ∀ e ∈ es, ResAt w e.p.1 e.p.2.rs ∧ ObjsAt w e.v e.qs
theorem EvsAt.below {w w' : World} {v : Value} {es : List PE} (h : EvsAt w v es) (hb : Below w.heap.size w w') : EvsAt w' v es := ⟨OldRow.below h.1 hb, fun e he => ⟨(h.2 e he).1.below hb, (h.2 e he).2.below hb⟩⟩
/-- Numbers that fit. -/
def numE (e : PE) : Prop := numR e.p.2.rs ∧ ∀ q ∈ e.qs, numR q.2.rs
def fitEs (es : List PE) : Bool := decide (es.length ≤ 60) && es.all fun e => fitE e.p.2 e.qs
theorem fitEs_wf {es : List PE} (h : fitEs es = true) (hn : ∀ e ∈ es, numE e) : es.length ≤ 60 ∧ ∀ e ∈ es, wfS e.p.2 ∧ wfL e.qs ∧ e.qs.length ≤ 60 := by
  unfold fitEs at h
  rw [Bool.and_eq_true, decide_eq_true_eq, List.all_eq_true] at h
  exact ⟨h.1, fun e he => fitE_wf (h.2 e he) (hn e he).1 (hn e he).2⟩

set_option maxHeartbeats 16000000 in
theorem fits8_ok (v : Value) (es : List PE) (w : World) (hv : EvsAt w v es) :
    Calls Tryz.prog 4 #[v] w fun e w' => e = .returned (.bool (fitEs es)) ∧ Below w.heap.size w w' := by
  obtain ⟨a, cp, rfl, hat⟩ := OldRow.cells cellsE_len hv.1
  refine calls1 (args := [.slice a es.length cp]) Tryz.func4 rfl rfl rfl rfl ?_
  by_cases h60 : es.length ≤ 60
  · repeat' (first | refine aw_seq ?_ | refine zz ?_ | refine zon fun _ => ?_ | refine zoa fun vr lr hr => ?_ | refine zoS (fun _ => ?_) (fun _ => ?_) | refine zqS (fun _ => ?_) (fun _ => ?_) | refine zwS (fun _ => ?_) (fun _ => ?_))
    refine aw_for (t0 := [(0, .slice a es.length cp), (3, I (0 : Nat))]) (fun q t H => ∃ i : Nat, q = es.length - i ∧ i ≤ es.length ∧ (∀ (j : Nat) (e : PE), j < i → es[j]? = some e → fitE e.p.2 e.qs = true) ∧ t = [(0, .slice a es.length cp), (3, I i)] ∧ H = []) ⟨0, rfl, by omega, fun j p hj => by omega, rfl, rfl⟩ (by repeat (first | exact sub_nil | refine sub_cons rfl ?_)) ?_
    rintro q t H ⟨i, rfl, hi, hall, rfl, rfl⟩
    by_cases hlt : i < es.length
    · obtain ⟨⟨kind, ⟨x, o⟩, ver, v2, qs⟩, he⟩ := getP hlt
      obtain ⟨g, o1, rfl, hg, hc⟩ := hat i _ (i : Int) he rfl
      have cA : ∀ (j : Nat) z, [I kind, S o.k, S o.s, S o.n, I o.ver, S o.c, .bool o.tm, .bool o.bs, x, I ver, v2][j]? = some z → w.cell? ⟨g, o1 + (i : Int).toNat * 11 + j, none⟩ = some z := hc
      have m1 := List.mem_of_getElem? he
      have hr := fun w' (hb : Below w.heap.size w w') => Evt.fits_ok kind (x, o) ver v2 qs w' ((hv.2 _ m1).1.below hb) ((hv.2 _ m1).2.below hb)
      simp only at hr
      cases hq : fitE o qs
      · rw [show fitEs es = false by
          unfold fitEs
          rw [show (es.all fun e => fitE e.p.2 e.qs) = false from List.all_eq_false.2 ⟨_, m1, by simp only; rw [hq]; decide⟩, Bool.and_false]]
        rw [hq] at hr
        repeat' (first | refine aw_seq ?_ | ((first | apply ao_val | apply aq_val); exact wants_a; (first | exact ov_load_oa rfl hg cA rfl | exact ov_a); (exact rfl)) | refine zy ?_ | refine zon fun _ => ?_ | refine zoa fun vr lr hr => ?_ | ((first | apply ao_call | apply aq_call); exact wants_a; (first | exact oc_func rfl | exact oc_clos rfl rfl); (exact rfl); (first | exact fun w hw => hr w hw.below)) | refine zoS (fun _ => ?_) (fun _ => ?_) | refine zqS (fun _ => ?_) (fun _ => ?_) | refine zwS (fun _ => ?_) (fun _ => ?_))
        exact fun w' hw => ⟨rfl, hw.below⟩
      · rw [hq] at hr
        repeat' (first | refine aw_seq ?_ | ((first | apply ao_val | apply aq_val); exact wants_a; (first | exact ov_load_oa rfl hg cA rfl | exact ov_a); (exact rfl)) | refine zy ?_ | refine zon fun _ => ?_ | refine zoa fun vr lr hr => ?_ | ((first | apply ao_call | apply aq_call); exact wants_a; (first | exact oc_func rfl | exact oc_clos rfl rfl); (exact rfl); (first | exact fun w hw => hr w hw.below)) | refine zoS (fun _ => ?_) (fun _ => ?_) | refine zqS (fun _ => ?_) (fun _ => ?_) | refine zwS (fun _ => ?_) (fun _ => ?_))
        exact lq_normal' ⟨i + 1, rfl, by omega, fun j z hj hz => by
          by_cases e1 : j = i
          · subst e1; rw [he] at hz; cases hz; exact hq
          · exact hall j z (by omega) hz, rfl, rfl⟩ (by omega) (by repeat (first | exact sub_nil | refine sub_cons rfl ?_)) hsub_a
    · obtain rfl : i = es.length := by omega
      rw [show fitEs es = true by
        unfold fitEs
        rw [decide_eq_true h60, Bool.true_and]
        exact List.all_eq_true.2 fun e he => by
          obtain ⟨j, hj⟩ := List.getElem?_of_mem he
          exact hall j e (List.getElem?_eq_some_iff.1 hj).1 hj]
      repeat' (first | refine aw_seq ?_ | refine zz ?_ | refine zon fun _ => ?_ | refine zoa fun vr lr hr => ?_ | refine zoS (fun _ => ?_) (fun _ => ?_) | refine zqS (fun _ => ?_) (fun _ => ?_) | refine zwS (fun _ => ?_) (fun _ => ?_))
      exact fun w' hw => ⟨rfl, hw.below⟩
  · rw [show fitEs es = false by unfold fitEs; rw [decide_eq_false h60]; rfl]
    repeat' (first | refine aw_seq ?_ | refine zz ?_ | refine zon fun _ => ?_ | refine zoa fun vr lr hr => ?_ | refine zoS (fun _ => ?_) (fun _ => ?_) | refine zqS (fun _ => ?_) (fun _ => ?_) | refine zwS (fun _ => ?_) (fun _ => ?_))
    exact fun w' hw => ⟨rfl, hw.below⟩
end Chm
end Go.Proofs.YtboimmfegeinaaaGreat
