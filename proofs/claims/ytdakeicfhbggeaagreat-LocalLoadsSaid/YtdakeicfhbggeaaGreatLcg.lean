/- What is gone through of layer 13: scopes, deltas; conditions: none. -/
import Derived.Test.YtdakeicfhbggeaaGreatLcm
import Derived.Test.YtdakeicfhbggeaaGreatScpy
namespace Go.Proofs.YtdakeicfhbggeaaGreat
namespace Lct
open Go Go.RowKit Sx Vec Ojt Scp
attribute [local irreducible] Go.Calls
def fitSc (ss : List Sc) : Bool := decide (ss.length ≤ 20) && ss.all fun s => fitS (trms s.2)
theorem fitSc_wf {ss : List Sc} (h : fitSc ss = true) : ss.length ≤ 20 ∧ ∀ s ∈ ss, wfP s.2 := by
  unfold fitSc at h
  rw [Bool.and_eq_true, decide_eq_true_eq, List.all_eq_true] at h
  exact ⟨h.1, fun s hs => (Scp.fit_wf (h.2 s hs)).1⟩
set_option maxHeartbeats 8000000 in
theorem fits13_ok (v : Value) (ss : List Sc) (w : World) (hv : ScsAt w v ss) :
    Calls Tryz.prog 6 #[v] w fun e w' => e = .returned (.bool (fitSc ss)) ∧ Below w.heap.size w w' := by
  obtain ⟨a, cp, rfl, hat⟩ := OldRow.cells cellsSc_len hv.1
  refine calls1 (args := [.slice a ss.length cp]) Tryz.func6 rfl rfl rfl rfl ?_
  by_cases h60 : 20 < ss.length
  · rw [show fitSc ss = false by unfold fitSc; rw [decide_eq_false (by omega)]; rfl]
    repeat' (first | refine aw_seq ?_ | refine zz ?_ | refine zon fun _ => ?_ | refine zoa fun vr lr hr => ?_ | refine zoS (fun _ => ?_) (fun _ => ?_) | refine zqS (fun _ => ?_) (fun _ => ?_) | refine zwS (fun _ => ?_) (fun _ => ?_))
    exact fun w' hw => ⟨rfl, hw.below⟩
  repeat' (first | refine aw_seq ?_ | refine zz ?_ | refine zon fun _ => ?_ | refine zoa fun vr lr hr => ?_ | refine zoS (fun _ => ?_) (fun _ => ?_) | refine zqS (fun _ => ?_) (fun _ => ?_) | refine zwS (fun _ => ?_) (fun _ => ?_))
  refine aw_for (t0 := [(0, .slice a ss.length cp), (3, I (0 : Nat))]) (fun q t H => ∃ i : Nat, q = ss.length - i ∧ i ≤ ss.length ∧ (∀ (j : Nat) (e : Sc), j < i → ss[j]? = some e → fitS (trms e.2) = true) ∧ t = [(0, .slice a ss.length cp), (3, I i)] ∧ H = []) ⟨0, rfl, by omega, fun j p hj => by omega, rfl, rfl⟩ (by repeat (first | exact sub_nil | refine sub_cons rfl ?_)) ?_
  rintro q t H ⟨i, rfl, hi, hall, rfl, rfl⟩
  by_cases hlt : i < ss.length
  · obtain ⟨⟨u, sc⟩, he⟩ := getP hlt
    have m1 := List.mem_of_getElem? he
    obtain ⟨g, o1, rfl, hg, hc⟩ := hat i _ (i : Int) he rfl
    have c1 : w.cell? ⟨g, o1 + (i : Int).toNat * 1, none⟩ = some u := hc 0 _ rfl
    have hf := fun w' (hb : Below w.heap.size w w') => Scp.fits_ok u sc w' ((hv.2 _ m1).below hb)
    cases hq : fitS (trms sc)
    · rw [hq] at hf
      rw [show fitSc ss = false by
        unfold fitSc
        rw [show (ss.all fun s => fitS (trms s.2)) = false from List.all_eq_false.2 ⟨_, m1, by simp only; rw [hq]; decide⟩, Bool.and_false]]
      repeat' (first | refine aw_seq ?_ | refine zz ?_ | refine zon fun _ => ?_ | refine zoa fun vr lr hr => ?_ | ((first | apply ao_call | apply aq_call); exact wants_a; (first | exact oc_func rfl | exact oc_clos rfl rfl | exact oc_bnd rfl rfl); (exact rfl); (first | exact fun w hw => hf w hw.below)) | refine zoS (fun _ => ?_) (fun _ => ?_) | refine zqS (fun _ => ?_) (fun _ => ?_) | refine zwS (fun _ => ?_) (fun _ => ?_))
      exact fun w' hw => ⟨rfl, hw.below⟩
    · rw [hq] at hf
      repeat' (first | refine aw_seq ?_ | refine zz ?_ | refine zon fun _ => ?_ | refine zoa fun vr lr hr => ?_ | ((first | apply ao_call | apply aq_call); exact wants_a; (first | exact oc_func rfl | exact oc_clos rfl rfl | exact oc_bnd rfl rfl); (exact rfl); (first | exact fun w hw => hf w hw.below)) | refine zoS (fun _ => ?_) (fun _ => ?_) | refine zqS (fun _ => ?_) (fun _ => ?_) | refine zwS (fun _ => ?_) (fun _ => ?_))
      exact lq_normal' ⟨i + 1, rfl, by omega, fun j z hj hz => by
        by_cases e1 : j = i
        · subst e1; rw [he] at hz; cases hz; exact hq
        · exact hall j z (by omega) hz, rfl, rfl⟩ (by omega) (by repeat (first | exact sub_nil | refine sub_cons rfl ?_)) hsub_a
  · obtain rfl : i = ss.length := by omega
    rw [show fitSc ss = true by
      unfold fitSc
      rw [decide_eq_true (by omega), Bool.true_and, List.all_eq_true]
      exact fun e he => by
        obtain ⟨j, hj⟩ := List.getElem?_of_mem he
        exact hall j e (List.getElem?_eq_some_iff.1 hj).1 hj]
    repeat' (first | refine aw_seq ?_ | refine zz ?_ | refine zon fun _ => ?_ | refine zoa fun vr lr hr => ?_ | refine zoS (fun _ => ?_) (fun _ => ?_) | refine zqS (fun _ => ?_) (fun _ => ?_) | refine zwS (fun _ => ?_) (fun _ => ?_))
    exact fun w' hw => ⟨rfl, hw.below⟩
abbrev Dl := Value × List Chm.PD
def cellsDl (d : Dl) : List Value := [d.1]
theorem cellsDl_len (d : Dl) : (cellsDl d).length = 1 := rfl
def DlsAt (w : World) (v : Value) (l : List Dl) : Prop := OldRow w 1 v l.length (l.flatMap cellsDl) ∧ ∀ d ∈ l, DelAt w d.1 d.2
theorem DelAt.below {w w' : World} {v : Value} {ds : List Chm.PD} (h : DelAt w v ds) (hb : Below w.heap.size w w') : DelAt w' v ds := ⟨OldRow.below h.1 hb, fun d hd => ⟨(h.2 d hd).1.below hb, (h.2 d hd).2.below hb⟩⟩
theorem DlsAt.below {w w' : World} {v : Value} {l : List Dl} (h : DlsAt w v l) (hb : Below w.heap.size w w') : DlsAt w' v l := ⟨OldRow.below h.1 hb, fun d hd => (h.2 d hd).below hb⟩
def fitD (d : Chm.PD) : Bool := fitO d.old.2 && fitO d.new.2
def fitDs (ds : List Chm.PD) : Bool := decide (ds.length ≤ 20) && ds.all fitD
def fitDl (l : List Dl) : Bool := decide (l.length ≤ 20) && l.all fun d => fitDs d.2
def numD (l : List Dl) : Prop := ∀ d ∈ l, ∀ x ∈ d.2, numR x.old.2.rs ∧ numR x.new.2.rs
theorem fitDl_wf {l : List Dl} (h : fitDl l = true) (hn : numD l) : l.length ≤ 20 ∧ ∀ d ∈ l, d.2.length ≤ 20 ∧ ∀ x ∈ d.2, wfO x.old.2 ∧ wfO x.new.2 := by
  unfold fitDl at h
  rw [Bool.and_eq_true, decide_eq_true_eq, List.all_eq_true] at h
  refine ⟨h.1, fun d hd => ?_⟩
  have h1 := h.2 d hd
  unfold fitDs at h1
  rw [Bool.and_eq_true, decide_eq_true_eq, List.all_eq_true] at h1
  refine ⟨h1.1, fun x hx => ?_⟩
  have h2 := h1.2 x hx
  unfold fitD at h2
  rw [Bool.and_eq_true] at h2
  obtain ⟨n1, n2⟩ := hn d hd x hx
  exact ⟨(fit_wf h2.1 n1).1, (fit_wf h2.2 n2).1⟩
theorem fitDl_f {l : List Dl} {d : Dl} (hd : d ∈ l) (h : fitDs d.2 = false) : fitDl l = false := by
  unfold fitDl
  rw [show (l.all fun d => fitDs d.2) = false from List.all_eq_false.2 ⟨d, hd, by rw [h]; decide⟩, Bool.and_false]
theorem fitDs_f {ds : List Chm.PD} {d : Chm.PD} (hd : d ∈ ds) (h : fitD d = false) : fitDs ds = false := by
  unfold fitDs
  rw [show ds.all fitD = false from List.all_eq_false.2 ⟨d, hd, by rw [h]; decide⟩, Bool.and_false]
set_option maxHeartbeats 16000000 in
theorem deltas_ok (v : Value) (l : List Dl) (w : World) (hv : DlsAt w v l) :
    Calls Tryz.prog 7 #[v] w fun e w' => e = .returned (.bool (fitDl l)) ∧ Below w.heap.size w w' := by
  obtain ⟨a, cp, rfl, hat⟩ := OldRow.cells cellsDl_len hv.1
  refine calls1 (args := [.slice a l.length cp]) Tryz.func7 rfl rfl rfl rfl ?_
  by_cases h60 : 20 < l.length
  · rw [show fitDl l = false by unfold fitDl; rw [decide_eq_false (by omega)]; rfl]
    repeat' (first | refine aw_seq ?_ | refine zz ?_ | refine zon fun _ => ?_ | refine zoa fun vr lr hr => ?_ | refine zoS (fun _ => ?_) (fun _ => ?_) | refine zqS (fun _ => ?_) (fun _ => ?_) | refine zwS (fun _ => ?_) (fun _ => ?_))
    exact fun w' hw => ⟨rfl, hw.below⟩
  repeat' (first | refine aw_seq ?_ | refine zz ?_ | refine zon fun _ => ?_ | refine zoa fun vr lr hr => ?_ | refine zoS (fun _ => ?_) (fun _ => ?_) | refine zqS (fun _ => ?_) (fun _ => ?_) | refine zwS (fun _ => ?_) (fun _ => ?_))
  refine aw_for (t0 := [(0, .slice a l.length cp), (3, I (0 : Nat))]) (fun q t H => ∃ i : Nat, q = l.length - i ∧ i ≤ l.length ∧ (∀ (j : Nat) (e : Dl), j < i → l[j]? = some e → fitDs e.2 = true) ∧ t = [(0, .slice a l.length cp), (3, I i)] ∧ H = []) ⟨0, rfl, by omega, fun j p hj => by omega, rfl, rfl⟩ (by repeat (first | exact sub_nil | refine sub_cons rfl ?_)) ?_
  rintro q t H ⟨i, rfl, hi, hall, rfl, rfl⟩
  by_cases hlt : i < l.length
  · obtain ⟨⟨u, ds⟩, he⟩ := getP hlt
    have m1 := List.mem_of_getElem? he
    have hds := hv.2 _ m1
    simp only at hds
    obtain ⟨a2, cp2, rfl, hat2⟩ := OldRow.cells Chm.cellsD_len hds.1
    obtain ⟨g, o1, rfl, hg, hc⟩ := hat i _ (i : Int) he rfl
    have c1 : w.cell? ⟨g, o1 + (i : Int).toNat * 1, none⟩ = some (.slice a2 ds.length cp2) := hc 0 _ rfl
    by_cases h20 : 20 < ds.length
    · rw [fitDl_f m1 (by unfold fitDs; rw [decide_eq_false (by simp only; omega)]; rfl)]
      repeat' (first | refine aw_seq ?_ | refine zz ?_ | refine zon fun _ => ?_ | refine zoa fun vr lr hr => ?_ | refine zoS (fun _ => ?_) (fun _ => ?_) | refine zqS (fun _ => ?_) (fun _ => ?_) | refine zwS (fun _ => ?_) (fun _ => ?_))
      exact fun w' hw => ⟨rfl, hw.below⟩
    repeat' (first | refine aw_seq ?_ | refine zz ?_ | refine zon fun _ => ?_ | refine zoa fun vr lr hr => ?_ | refine zoS (fun _ => ?_) (fun _ => ?_) | refine zqS (fun _ => ?_) (fun _ => ?_) | refine zwS (fun _ => ?_) (fun _ => ?_))
    refine aw_for (t0 := [(0, .slice (some ⟨g, o1, none⟩) l.length cp), (3, I i), (4, I (0 : Nat))]) (fun q t H => ∃ k : Nat, q = ds.length - k ∧ k ≤ ds.length ∧ (∀ (j : Nat) (e : Chm.PD), j < k → ds[j]? = some e → fitD e = true) ∧ t = [(0, .slice (some ⟨g, o1, none⟩) l.length cp), (3, I i), (4, I k)] ∧ H = []) ⟨0, rfl, by omega, fun j p hj => by omega, rfl, rfl⟩ (by repeat (first | exact sub_nil | refine sub_cons rfl ?_)) ?_
    rintro q t H ⟨k, rfl, hk, hallk, rfl, rfl⟩
    by_cases hlk : k < ds.length
    · obtain ⟨d, hx⟩ := getP hlk
      have m2 := List.mem_of_getElem? hx
      obtain ⟨q1, q2⟩ := hds.2 _ m2
      have hf1 := fun w' (hb : Below w.heap.size w w') => Ojt.fits_ok d.old.2 d.old.1 w' (q1.below hb)
      have hf2 := fun w' (hb : Below w.heap.size w w') => Ojt.fits_ok d.new.2 d.new.1 w' (q2.below hb)
      have hfd : fitD d = (fitO d.old.2 && fitO d.new.2) := rfl
      obtain ⟨⟨dk, ds2, dn⟩, had, has, ⟨uo, oo⟩, ⟨un, on⟩⟩ := d
      simp only at hf1 hf2 hfd
      obtain ⟨ok1, os1, on1, over, oc1, otm, obs, ors⟩ := oo
      obtain ⟨nk1, ns1, nn1, nver, nc1, ntm, nbs, nrs⟩ := on
      obtain ⟨g2, o2, rfl, hg2, hc2⟩ := hat2 k _ (k : Int) hx rfl
      have cO : ∀ (j : Nat) z, [S ok1, S os1, S on1, I over, S oc1, .bool otm, .bool obs, uo][j]? = some z → w.cell? ⟨g2, o2 + (k : Int).toNat * 21 + 5 + j, none⟩ = some z := fun j z hj => by
        rw [Nat.add_assoc (o2 + (k : Int).toNat * 21)]
        refine hc2 (5 + j) z ?_
        match j, hj with
        | 0, hj => exact hj
        | 1, hj => exact hj
        | 2, hj => exact hj
        | 3, hj => exact hj
        | 4, hj => exact hj
        | 5, hj => exact hj
        | 6, hj => exact hj
        | 7, hj => exact hj
      have cN : ∀ (j : Nat) z, [S nk1, S ns1, S nn1, I nver, S nc1, .bool ntm, .bool nbs, un][j]? = some z → w.cell? ⟨g2, o2 + (k : Int).toNat * 21 + 13 + j, none⟩ = some z := fun j z hj => by
        rw [Nat.add_assoc (o2 + (k : Int).toNat * 21)]
        refine hc2 (13 + j) z ?_
        match j, hj with
        | 0, hj => exact hj
        | 1, hj => exact hj
        | 2, hj => exact hj
        | 3, hj => exact hj
        | 4, hj => exact hj
        | 5, hj => exact hj
        | 6, hj => exact hj
        | 7, hj => exact hj
      cases hz1 : fitO ⟨ok1, os1, on1, over, oc1, otm, obs, ors⟩
      · rw [hz1, Bool.false_and] at hfd
        rw [hz1] at hf1
        rw [fitDl_f m1 (fitDs_f m2 hfd)]
        generalize fitO ⟨nk1, ns1, nn1, nver, nc1, ntm, nbs, nrs⟩ = z2 at hf2
        repeat' (first | refine aw_seq ?_ | ((first | apply ao_val | apply aq_val); exact wants_a; (first | exact ov_load_oa rfl hg2 cO rfl | exact ov_load_oa rfl hg2 cN rfl | exact ov_a); (exact rfl)) | refine zy ?_ | refine zon fun _ => ?_ | refine zoa fun vr lr hr => ?_ | ((first | apply ao_call | apply aq_call); exact wants_a; (first | exact oc_func rfl | exact oc_clos rfl rfl | exact oc_bnd rfl rfl); (exact rfl); (first | exact fun w hw => hf1 w hw.below | exact fun w hw => hf2 w hw.below)) | refine zoS (fun _ => ?_) (fun _ => ?_) | refine zqS (fun _ => ?_) (fun _ => ?_) | refine zwS (fun _ => ?_) (fun _ => ?_))
        all_goals exact fun w' hw => ⟨rfl, hw.below⟩
      cases hz2 : fitO ⟨nk1, ns1, nn1, nver, nc1, ntm, nbs, nrs⟩
      · rw [hz2, Bool.and_false] at hfd
        rw [hz1] at hf1
        rw [hz2] at hf2
        rw [fitDl_f m1 (fitDs_f m2 hfd)]
        repeat' (first | refine aw_seq ?_ | ((first | apply ao_val | apply aq_val); exact wants_a; (first | exact ov_load_oa rfl hg2 cO rfl | exact ov_load_oa rfl hg2 cN rfl | exact ov_a); (exact rfl)) | refine zy ?_ | refine zon fun _ => ?_ | refine zoa fun vr lr hr => ?_ | ((first | apply ao_call | apply aq_call); exact wants_a; (first | exact oc_func rfl | exact oc_clos rfl rfl | exact oc_bnd rfl rfl); (exact rfl); (first | exact fun w hw => hf1 w hw.below | exact fun w hw => hf2 w hw.below)) | refine zoS (fun _ => ?_) (fun _ => ?_) | refine zqS (fun _ => ?_) (fun _ => ?_) | refine zwS (fun _ => ?_) (fun _ => ?_))
        all_goals exact fun w' hw => ⟨rfl, hw.below⟩
      · rw [hz1, hz2] at hfd
        rw [hz1] at hf1
        rw [hz2] at hf2
        repeat' (first | refine aw_seq ?_ | ((first | apply ao_val | apply aq_val); exact wants_a; (first | exact ov_load_oa rfl hg2 cO rfl | exact ov_load_oa rfl hg2 cN rfl | exact ov_a); (exact rfl)) | refine zy ?_ | refine zon fun _ => ?_ | refine zoa fun vr lr hr => ?_ | ((first | apply ao_call | apply aq_call); exact wants_a; (first | exact oc_func rfl | exact oc_clos rfl rfl | exact oc_bnd rfl rfl); (exact rfl); (first | exact fun w hw => hf1 w hw.below | exact fun w hw => hf2 w hw.below)) | refine zoS (fun _ => ?_) (fun _ => ?_) | refine zqS (fun _ => ?_) (fun _ => ?_) | refine zwS (fun _ => ?_) (fun _ => ?_))
        exact lq_normal' ⟨k + 1, rfl, by omega, fun j z hj hz => by
          by_cases e1 : j = k
          · subst e1; rw [hx] at hz; cases hz; exact hfd
          · exact hallk j z (by omega) hz, rfl, rfl⟩ (by omega) (by repeat (first | exact sub_nil | refine sub_cons rfl ?_)) hsub_a
    · obtain rfl : k = ds.length := by omega
      repeat' (first | refine aw_seq ?_ | refine zz ?_ | refine zon fun _ => ?_ | refine zoa fun vr lr hr => ?_ | refine zoS (fun _ => ?_) (fun _ => ?_) | refine zqS (fun _ => ?_) (fun _ => ?_) | refine zwS (fun _ => ?_) (fun _ => ?_))
      exact lq_normal' ⟨i + 1, rfl, by omega, fun j z hj hz => by
        by_cases e1 : j = i
        · subst e1; rw [he] at hz; cases hz
          unfold fitDs
          rw [decide_eq_true (by simp only; omega), Bool.true_and, List.all_eq_true]
          exact fun x hx => by
            obtain ⟨j, hj⟩ := List.getElem?_of_mem hx
            exact hallk j x (List.getElem?_eq_some_iff.1 hj).1 hj
        · exact hall j z (by omega) hz, rfl, rfl⟩ (by omega) (by repeat (first | exact sub_nil | refine sub_cons rfl ?_)) hsub_a
  · obtain rfl : i = l.length := by omega
    rw [show fitDl l = true by
      unfold fitDl
      rw [decide_eq_true (by omega), Bool.true_and, List.all_eq_true]
      exact fun e he => by
        obtain ⟨j, hj⟩ := List.getElem?_of_mem he
        exact hall j e (List.getElem?_eq_some_iff.1 hj).1 hj]
    repeat' (first | refine aw_seq ?_ | refine zz ?_ | refine zon fun _ => ?_ | refine zoa fun vr lr hr => ?_ | refine zoS (fun _ => ?_) (fun _ => ?_) | refine zqS (fun _ => ?_) (fun _ => ?_) | refine zwS (fun _ => ?_) (fun _ => ?_))
    exact fun w' hw => ⟨rfl, hw.below⟩
end Lct
end Go.Proofs.YtdakeicfhbggeaaGreat
