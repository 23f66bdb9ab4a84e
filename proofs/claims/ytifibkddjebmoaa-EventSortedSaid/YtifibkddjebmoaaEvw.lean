/- Walk of layer 7: EventSorted; conditions: none. -/
import Derived.Test.YtifibkddjebmoaaEvt
import Derived.Test.YtifibkddjebmoaaEvd
namespace Go.Proofs.Ytifibkddjebmoaa
namespace Evt
open Go Go.RowKit Sx Lab Vec Ojt
attribute [local irreducible] Go.Calls

theorem wfl_sort {ps qs : List PO} (h : obs qs = sortO (obs ps)) (hw : wfL ps) : wfL qs ∧ qs.length = ps.length := by
  have e1 : qs.length = ps.length := by rw [← obs_len qs, h, ← obs_sort, obs_len, sort_len]
  exact ⟨⟨by have := hw.1; omega, fun q hq => by
    have hm : q.2 ∈ sortO (obs ps) := h ▸ List.mem_map_of_mem hq
    obtain ⟨p, hp, e⟩ := List.mem_map.1 ((sort_perm _).mem_iff.1 hm)
    rw [← e]
    exact hw.2 p hp⟩, e1⟩
theorem res_k {E : Env} {H R R' l0 ls l : Hp} {w : World} {p : PO} (h : RepH E H w) (hk : KO p l) (hl : Cut ls l R') (hc : Cut H (l0 ++ ls) R) : ResAt w p.1 p.2.rs := h.oldr hk (hc.snd.trans hl)

def keyEq (q o : Ob) : Prop := q.k = o.k ∧ q.s = o.s ∧ q.n = o.n
def noP (os : List Ob) (i : Nat) (o : Ob) (k : Nat) : Prop := ∀ (k' : Nat) (q : Ob), k' < k → k' ≠ i → os[k']? = some q → ¬ keyEq q o
theorem no_same {os : List Ob} {i k : Nat} {o q : Ob} (hq : os[k]? = some q) (h : k = i ∨ ¬ keyEq q o) : noP os i o (k + 1) ↔ noP os i o k := by
  constructor
  · exact fun g k' r h1 h2 h3 => g k' r (by omega) h2 h3
  · intro g k' r h1 h2 h3
    by_cases e : k' = k
    · subst e
      rw [hq] at h3
      cases h3
      exact h.resolve_left h2
    · exact g k' r (by omega) h2 h3
theorem no_not {os : List Ob} {i k : Nat} {o q : Ob} (hq : os[k]? = some q) (h : k ≠ i) (h2 : keyEq q o) : ¬ noP os i o (k + 1) := fun g => g k q (by omega) h hq h2
def oneP (os : List Ob) (j : Nat) (o : Ob) : Prop := rightO o = true ∧ noP os j o os.length
theorem single_one {os : List Ob} : (∀ (j : Nat) (o : Ob), j < os.length → os[j]? = some o → oneP os j o) ↔ singleP os := by
  constructor
  · exact fun h j o hj => ⟨(h j o (List.getElem?_eq_some_iff.1 hj).1 hj).1, fun k q hk hq he => (h j o (List.getElem?_eq_some_iff.1 hj).1 hj).2 k q (List.getElem?_eq_some_iff.1 hq).1 hk hq he⟩
  · exact fun h j o _ hj => ⟨(h j o hj).1, fun k q _ hk hq he => (h j o hj).2 k q hk hq he⟩
theorem key_t {q o : Ob} (h : keyEq q o) : eqAll [S q.k, S q.s, S q.n] [S o.k, S o.s, S o.n] = true := by
  obtain ⟨h1, h2, h3⟩ := h
  rw [h1, h2, h3]
  simp [eqAll, eqB]
theorem key_f {q o : Ob} (h : ¬ keyEq q o) : eqAll [S q.k, S q.s, S q.n] [S o.k, S o.s, S o.n] = false := by
  cases he : eqAll [S q.k, S q.s, S q.n] [S o.k, S o.s, S o.n]
  · rfl
  · exact absurd (by simp only [eqAll, eqB, Bool.and_eq_true, beq_iff_eq] at he; exact ⟨by simpa using he.1, by simpa using he.2.1, by simpa using he.2.2⟩) h

set_option maxHeartbeats 200000000 in
theorem sorted_ok (v : Value) (ps : List PO) (hn : ∀ p ∈ ps, numR p.2.rs ∧ p.2.ver ≤ 9223372036854775807) (w : World) (hv : ObjsAt w v ps) :
    Calls Try.prog 4 #[v] w fun e w' => e = .returned (.bool true) ∧ Below w.heap.size w w' := by
  obtain ⟨a, cp, rfl, hat⟩ := OldRow.cells cellsO_len hv.1
  refine calls1 (args := [.slice a ps.length cp]) Try.func4 rfl rfl rfl rfl ?_
  have f1 : ∀ w', Below w.heap.size w w' → Calls Try.prog 5 #[E0 0 0 [] [] [] [] 0 (.slice a ps.length cp)] w' fun e w'' => e = .returned (.bool (fitE zO ps)) ∧ Below w'.heap.size w' w'' := fun w' hb => fits_ok 0 (nilS, zO) 0 _ ps w' (res0 w') (hv.below hb)
  cases h1 : fitE zO ps
  · rw [h1] at f1
    repeat' (first | refine aw_seq ?_ | refine zz ?_ | refine zon fun _ => ?_ | refine zoa fun vr lr hr => ?_ | ((first | apply ao_call | apply aq_call); exact wants_a; (first | exact oc_func rfl | exact oc_clos rfl rfl); (exact rfl); (first | exact fun w hw => f1 w hw.below | exact fun w hw => alive_ok w)) | refine zoS (fun _ => ?_) (fun _ => ?_) | refine zqS (fun _ => ?_) (fun _ => ?_) | refine zwS (fun _ => ?_) (fun _ => ?_))
    exact fun w' hw => ⟨rfl, hw.below⟩
  rw [h1] at f1
  obtain ⟨-, a2, a3⟩ := fitE_wf h1 (fun r hr => by cases hr) fun p hp => (hn p hp).1
  have c5 := fun w' (hb : Below w.heap.size w w') => psorted_ok _ ps a2 (by omega) w' (hv.below hb)
  repeat' (first | refine aw_seq ?_ | refine zz ?_ | refine zon fun _ => ?_ | refine zoa fun vr lr hr => ?_ | ((first | apply ao_call | apply aq_call); exact wants_a; (first | exact oc_func rfl | exact oc_clos rfl rfl); (exact rfl); (first | exact fun w hw => f1 w hw.below)) | (apply ao_callD; exact wants_a; (exact oc_func rfl); (exact rfl); (first | exact fun w hw => c5 w hw.below); intro vr lr hr) | refine zoS (fun _ => ?_) (fun _ => ?_) | refine zqS (fun _ => ?_) (fun _ => ?_) | refine zwS (fun _ => ?_) (fun _ => ?_))
  revert vr lr hr
  rintro v1 k1 ⟨qs, l0, ls, hqs, rfl, hrow, hk⟩
  obtain ⟨b2x, b3⟩ := wfl_sort hqs a2
  have c6 := fun w' (h : ObjsAt w' v1 qs) => psorted_ok v1 qs b2x (by omega) w' h
  rw [hqs, sort_id (sort_srt (obs ps))] at c6
  repeat' (first | refine aw_seq ?_ | refine zz ?_ | refine zon fun _ => ?_ | refine zoa fun vr lr hr => ?_ | (apply ao_callD; exact wants_a; (exact oc_func rfl); (exact rfl); (first | exact fun w hw => c6 w (objs_at hw hrow hk cut_a)); intro vr lr hr) | refine zoS (fun _ => ?_) (fun _ => ?_) | refine zqS (fun _ => ?_) (fun _ => ?_) | refine zwS (fun _ => ?_) (fun _ => ?_))
  revert vr lr hr
  rintro v2 k2 ⟨rs, m0, ms, hrs, rfl, hrow2, hk2⟩
  have w2 : wfL rs := (wfl_sort hrs a2).1
  have c7 := fun w' (h : ObjsAt w' v2 rs) (g : ObjsAt w' v1 qs) => robjs_ok v2 v1 rs qs w2 b2x w' h g
  rw [decide_eq_true (hrs.trans hqs.symm)] at c7
  obtain ⟨va, vc, rfl⟩ := hrow.len
  repeat' (first | refine aw_seq ?_ | refine zz ?_ | refine zon fun _ => ?_ | refine zoa fun vr lr hr => ?_ | ((first | apply ao_call | apply aq_call); exact wants_a; (first | exact oc_func rfl | exact oc_clos rfl rfl); (exact rfl); (first | exact fun w hw => c7 w (objs_at hw hrow2 hk2 cut_a) (objs_at hw hrow hk cut_a))) | refine zoS (fun _ => ?_) (fun _ => ?_) | refine zqS (fun _ => ?_) (fun _ => ?_) | refine zwS (fun _ => ?_) (fun _ => ?_))
  have hn1 : ps.length ≤ 60 := a3
  have ho1 := obs_len ps
  refine aw_forH (t0 := [(0, .slice a ps.length cp), (4, .slice va qs.length vc), (6, .bool true), (7, I (0 : Nat))]) (H0 := (l0 ++ ls) ++ []) (fun q t H => ∃ (i : Nat) (b : Bool), q = ps.length - i ∧ i ≤ ps.length ∧ (b = true ↔ ∀ (j : Nat) (o : Ob), j < i → (obs ps)[j]? = some o → oneP (obs ps) j o) ∧ t = [(0, .slice a ps.length cp), (4, .slice va qs.length vc), (6, .bool b), (7, I i)] ∧ H = (l0 ++ ls) ++ [])
    ⟨0, true, rfl, by omega, ⟨fun _ j o hj => by omega, fun _ => rfl⟩, rfl, rfl⟩ (by repeat (first | exact sub_nil | refine sub_cons rfl ?_)) hsub_a ?_
  rintro q t H ⟨i, b, rfl, hi, hb, rfl, rfl⟩
  by_cases hlt : i < ps.length
  · obtain ⟨⟨u, o⟩, he⟩ := getP hlt
    obtain ⟨g, o1, rfl, hg, hc⟩ := hat i _ (i : Int) he rfl
    have cA : ∀ (j : Nat) z, [S o.k, S o.s, S o.n, I o.ver, S o.c, .bool o.tm, .bool o.bs, u][j]? = some z → w.cell? ⟨g, o1 + (i : Int).toNat * 8 + j, none⟩ = some z := hc
    have cK : ∀ (j : Nat) z, [S o.k, S o.s, S o.n][j]? = some z → w.cell? ⟨g, o1 + (i : Int).toNat * 8 + 0 + j, none⟩ = some z := fun j z hj => hc j z (by
      rcases j with _ | _ | _ | j
      · exact hj
      · exact hj
      · exact hj
      · simp at hj)
    have m1 := List.mem_of_getElem? he
    have hoi := ob_at he
    obtain ⟨g1, cap1, cs, hva, rfl, hcell⟩ := hrow.cells_all cellsO_len (by omega)
    cases hva
    repeat' (first | refine aw_seq ?_ | refine zz ?_ | refine zon fun _ => ?_ | refine zoa fun vr lr hr => ?_ | refine zoS (fun _ => ?_) (fun _ => ?_) | refine zqS (fun _ => ?_) (fun _ => ?_) | refine zwS (fun _ => ?_) (fun _ => ?_))
    refine aw_for (t0 := [(0, .slice (some ⟨g, o1, none⟩) ps.length cp), (4, .slice (some ⟨g1, 0, none⟩) qs.length vc), (6, .bool b), (7, I i), (8, I (0 : Nat)), (9, I (0 : Nat)), (10, I (0 : Nat))]) (fun q t H => ∃ (k x y : Nat) (b2 : Bool), q = ps.length - k ∧ k ≤ ps.length ∧ x = cntO o ((obs ps).take k) ∧ y = cntO o ((sortO (obs ps)).take k) ∧ (b2 = true ↔ b = true ∧ noP (obs ps) i o k) ∧ t = [(0, .slice (some ⟨g, o1, none⟩) ps.length cp), (4, .slice (some ⟨g1, 0, none⟩) qs.length vc), (6, .bool b2), (7, I i), (8, I x), (9, I y), (10, I k)] ∧ H = ([(g1, .cells cs.toArray 27)] ++ ls) ++ [])
      ⟨0, 0, 0, b, rfl, by omega, rfl, rfl, ⟨fun h => ⟨h, fun k' q hk => by omega⟩, fun h => h.1⟩, rfl, rfl⟩ (by repeat (first | exact sub_nil | refine sub_cons rfl ?_)) ?_
    rintro q t H ⟨k, x, y, b2, rfl, hkn, hx, hy, hb2, rfl, rfl⟩
    by_cases hkl : k < ps.length
    · obtain ⟨⟨uk, ok⟩, hek⟩ := getP hkl
      obtain ⟨g', o', e1, -, hd⟩ := hat k _ (k : Int) hek rfl
      cases e1
      have dA : ∀ (j : Nat) z, [S ok.k, S ok.s, S ok.n, I ok.ver, S ok.c, .bool ok.tm, .bool ok.bs, uk][j]? = some z → w.cell? ⟨g, o1 + (k : Int).toNat * 8 + j, none⟩ = some z := hd
      have dK : ∀ (j : Nat) z, [S ok.k, S ok.s, S ok.n][j]? = some z → w.cell? ⟨g, o1 + (k : Int).toNat * 8 + 0 + j, none⟩ = some z := fun j z hj => hd j z (by
        rcases j with _ | _ | _ | j
        · exact hj
        · exact hj
        · exact hj
        · simp at hj)
      have m2 := List.mem_of_getElem? hek
      obtain ⟨⟨z, r⟩, hf⟩ := getP (show k < qs.length by omega)
      have m3 := List.mem_of_getElem? hf
      obtain ⟨lk, lR, hkc, hko⟩ := hk.at m3
      have slO : sl (0 + (k : Int).toNat * 8) 8 cs = some [S r.k, S r.s, S r.n, I r.ver, S r.c, .bool r.tm, .bool r.bs, z] := sl_of (vs := cellsO (z, r)) (.inl (by rw [cellsO_len]; omega)) fun j y hj => hcell k _ (k : Int) j y hf rfl hj
      have one := fun w' (hb : Below w.heap.size w w') => Ojt.rsame_ok ok o uk u (a2.2 _ m2).wfO (a2.2 _ m1).wfO w' ((hv.2 _ m2).below hb) ((hv.2 _ m1).below hb)
      have two := fun w' (h : ResAt w' z r.rs) (hb : Below w.heap.size w w') => Ojt.rsame_ok r o z u (b2x.2 _ m3).wfO (a2.2 _ m1).wfO w' h ((hv.2 _ m1).below hb)
      rw [same_eq] at one two
      have hqk := ob_at hek
      have n1 := cnt_snoc (o := o) hqk
      have n2 := cnt_snoc (o := o) (l := sortO (obs ps)) (k := k) (q := r) (by rw [← hqs]; exact ob_at hf)
      have hxb : x ≤ k := by rw [hx]; exact Nat.le_trans List.countP_le_length (List.length_take_le _ _)
      have hyb : y ≤ k := by rw [hy]; exact Nat.le_trans List.countP_le_length (List.length_take_le _ _)
      by_cases e1 : ok = o <;> by_cases e2 : r = o
      · rw [decide_eq_true e1] at one
        rw [decide_eq_true e2] at two
        rw [if_pos e1] at n1
        rw [if_pos e2] at n2
        by_cases hki : k = i
        · have hkb : ((k : Int) != (i : Int)) = false := bne_eq_false_iff_eq.2 (by omega)
          repeat' (first | refine aw_seq ?_ | ((first | apply ao_val | apply aq_val); exact wants_a; (first | exact ov_load_oa rfl hg cA rfl | exact ov_load_oa rfl hg dA rfl | exact ov_load_oa rfl hg cK rfl | exact ov_load_oa rfl hg dK rfl | exact ov_a); (exact rfl)) | refine zy ?_ | refine zon fun _ => ?_ | refine zoa fun vr lr hr => ?_ | ((first | apply ao_call | apply aq_call); exact wants_a; (first | exact oc_func rfl | exact oc_clos rfl rfl); (exact rfl); (first | exact fun w hw => one w hw.below | exact fun w hw => two w (res_k (l0 := [(g1, .cells cs.toArray 27)]) hw hko hkc cut_a) hw.below)) | refine zoS (fun _ => ?_) (fun _ => ?_) | refine zqS (fun _ => ?_) (fun _ => ?_) | refine zwS (fun _ => ?_) (fun _ => ?_))
          exact lq_normal' ⟨k + 1, x + 1, y + 1, b2, rfl, by omega, by omega, by omega, by rw [no_same hqk (.inl hki)]; exact hb2, rfl, rfl⟩ (by omega) (by repeat (first | exact sub_nil | refine sub_cons rfl ?_)) hsub_a
        · have hkb : ((k : Int) != (i : Int)) = true := bne_iff_ne.2 (by omega)
          by_cases hke : keyEq ok o
          · have hkt := key_t hke
            repeat' (first | refine aw_seq ?_ | ((first | apply ao_val | apply aq_val); exact wants_a; (first | exact ov_load_oa rfl hg cA rfl | exact ov_load_oa rfl hg dA rfl | exact ov_load_oa rfl hg cK rfl | exact ov_load_oa rfl hg dK rfl | exact ov_a); (exact rfl)) | refine zy ?_ | refine zon fun _ => ?_ | refine zoa fun vr lr hr => ?_ | ((first | apply ao_call | apply aq_call); exact wants_a; (first | exact oc_func rfl | exact oc_clos rfl rfl); (exact rfl); (first | exact fun w hw => one w hw.below | exact fun w hw => two w (res_k (l0 := [(g1, .cells cs.toArray 27)]) hw hko hkc cut_a) hw.below)) | refine zoS (fun _ => ?_) (fun _ => ?_) | refine zqS (fun _ => ?_) (fun _ => ?_) | refine zwS (fun _ => ?_) (fun _ => ?_))
            exact lq_normal' ⟨k + 1, x + 1, y + 1, false, rfl, by omega, by omega, by omega, ⟨fun h => (by cases h), fun h => absurd h.2 (no_not hqk hki hke)⟩, rfl, rfl⟩ (by omega) (by repeat (first | exact sub_nil | refine sub_cons rfl ?_)) hsub_a
          · have hkt := key_f hke
            repeat' (first | refine aw_seq ?_ | ((first | apply ao_val | apply aq_val); exact wants_a; (first | exact ov_load_oa rfl hg cA rfl | exact ov_load_oa rfl hg dA rfl | exact ov_load_oa rfl hg cK rfl | exact ov_load_oa rfl hg dK rfl | exact ov_a); (exact rfl)) | refine zy ?_ | refine zon fun _ => ?_ | refine zoa fun vr lr hr => ?_ | ((first | apply ao_call | apply aq_call); exact wants_a; (first | exact oc_func rfl | exact oc_clos rfl rfl); (exact rfl); (first | exact fun w hw => one w hw.below | exact fun w hw => two w (res_k (l0 := [(g1, .cells cs.toArray 27)]) hw hko hkc cut_a) hw.below)) | refine zoS (fun _ => ?_) (fun _ => ?_) | refine zqS (fun _ => ?_) (fun _ => ?_) | refine zwS (fun _ => ?_) (fun _ => ?_))
            exact lq_normal' ⟨k + 1, x + 1, y + 1, b2, rfl, by omega, by omega, by omega, by rw [no_same hqk (.inr hke)]; exact hb2, rfl, rfl⟩ (by omega) (by repeat (first | exact sub_nil | refine sub_cons rfl ?_)) hsub_a
      · rw [decide_eq_true e1] at one
        rw [decide_eq_false e2] at two
        rw [if_pos e1] at n1
        rw [if_neg e2] at n2
        by_cases hki : k = i
        · have hkb : ((k : Int) != (i : Int)) = false := bne_eq_false_iff_eq.2 (by omega)
          repeat' (first | refine aw_seq ?_ | ((first | apply ao_val | apply aq_val); exact wants_a; (first | exact ov_load_oa rfl hg cA rfl | exact ov_load_oa rfl hg dA rfl | exact ov_load_oa rfl hg cK rfl | exact ov_load_oa rfl hg dK rfl | exact ov_a); (exact rfl)) | refine zy ?_ | refine zon fun _ => ?_ | refine zoa fun vr lr hr => ?_ | ((first | apply ao_call | apply aq_call); exact wants_a; (first | exact oc_func rfl | exact oc_clos rfl rfl); (exact rfl); (first | exact fun w hw => one w hw.below | exact fun w hw => two w (res_k (l0 := [(g1, .cells cs.toArray 27)]) hw hko hkc cut_a) hw.below)) | refine zoS (fun _ => ?_) (fun _ => ?_) | refine zqS (fun _ => ?_) (fun _ => ?_) | refine zwS (fun _ => ?_) (fun _ => ?_))
          exact lq_normal' ⟨k + 1, x + 1, y, b2, rfl, by omega, by omega, by omega, by rw [no_same hqk (.inl hki)]; exact hb2, rfl, rfl⟩ (by omega) (by repeat (first | exact sub_nil | refine sub_cons rfl ?_)) hsub_a
        · have hkb : ((k : Int) != (i : Int)) = true := bne_iff_ne.2 (by omega)
          by_cases hke : keyEq ok o
          · have hkt := key_t hke
            repeat' (first | refine aw_seq ?_ | ((first | apply ao_val | apply aq_val); exact wants_a; (first | exact ov_load_oa rfl hg cA rfl | exact ov_load_oa rfl hg dA rfl | exact ov_load_oa rfl hg cK rfl | exact ov_load_oa rfl hg dK rfl | exact ov_a); (exact rfl)) | refine zy ?_ | refine zon fun _ => ?_ | refine zoa fun vr lr hr => ?_ | ((first | apply ao_call | apply aq_call); exact wants_a; (first | exact oc_func rfl | exact oc_clos rfl rfl); (exact rfl); (first | exact fun w hw => one w hw.below | exact fun w hw => two w (res_k (l0 := [(g1, .cells cs.toArray 27)]) hw hko hkc cut_a) hw.below)) | refine zoS (fun _ => ?_) (fun _ => ?_) | refine zqS (fun _ => ?_) (fun _ => ?_) | refine zwS (fun _ => ?_) (fun _ => ?_))
            exact lq_normal' ⟨k + 1, x + 1, y, false, rfl, by omega, by omega, by omega, ⟨fun h => (by cases h), fun h => absurd h.2 (no_not hqk hki hke)⟩, rfl, rfl⟩ (by omega) (by repeat (first | exact sub_nil | refine sub_cons rfl ?_)) hsub_a
          · have hkt := key_f hke
            repeat' (first | refine aw_seq ?_ | ((first | apply ao_val | apply aq_val); exact wants_a; (first | exact ov_load_oa rfl hg cA rfl | exact ov_load_oa rfl hg dA rfl | exact ov_load_oa rfl hg cK rfl | exact ov_load_oa rfl hg dK rfl | exact ov_a); (exact rfl)) | refine zy ?_ | refine zon fun _ => ?_ | refine zoa fun vr lr hr => ?_ | ((first | apply ao_call | apply aq_call); exact wants_a; (first | exact oc_func rfl | exact oc_clos rfl rfl); (exact rfl); (first | exact fun w hw => one w hw.below | exact fun w hw => two w (res_k (l0 := [(g1, .cells cs.toArray 27)]) hw hko hkc cut_a) hw.below)) | refine zoS (fun _ => ?_) (fun _ => ?_) | refine zqS (fun _ => ?_) (fun _ => ?_) | refine zwS (fun _ => ?_) (fun _ => ?_))
            exact lq_normal' ⟨k + 1, x + 1, y, b2, rfl, by omega, by omega, by omega, by rw [no_same hqk (.inr hke)]; exact hb2, rfl, rfl⟩ (by omega) (by repeat (first | exact sub_nil | refine sub_cons rfl ?_)) hsub_a
      · rw [decide_eq_false e1] at one
        rw [decide_eq_true e2] at two
        rw [if_neg e1] at n1
        rw [if_pos e2] at n2
        by_cases hki : k = i
        · have hkb : ((k : Int) != (i : Int)) = false := bne_eq_false_iff_eq.2 (by omega)
          repeat' (first | refine aw_seq ?_ | ((first | apply ao_val | apply aq_val); exact wants_a; (first | exact ov_load_oa rfl hg cA rfl | exact ov_load_oa rfl hg dA rfl | exact ov_load_oa rfl hg cK rfl | exact ov_load_oa rfl hg dK rfl | exact ov_a); (exact rfl)) | refine zy ?_ | refine zon fun _ => ?_ | refine zoa fun vr lr hr => ?_ | ((first | apply ao_call | apply aq_call); exact wants_a; (first | exact oc_func rfl | exact oc_clos rfl rfl); (exact rfl); (first | exact fun w hw => one w hw.below | exact fun w hw => two w (res_k (l0 := [(g1, .cells cs.toArray 27)]) hw hko hkc cut_a) hw.below)) | refine zoS (fun _ => ?_) (fun _ => ?_) | refine zqS (fun _ => ?_) (fun _ => ?_) | refine zwS (fun _ => ?_) (fun _ => ?_))
          exact lq_normal' ⟨k + 1, x, y + 1, b2, rfl, by omega, by omega, by omega, by rw [no_same hqk (.inl hki)]; exact hb2, rfl, rfl⟩ (by omega) (by repeat (first | exact sub_nil | refine sub_cons rfl ?_)) hsub_a
        · have hkb : ((k : Int) != (i : Int)) = true := bne_iff_ne.2 (by omega)
          by_cases hke : keyEq ok o
          · have hkt := key_t hke
            repeat' (first | refine aw_seq ?_ | ((first | apply ao_val | apply aq_val); exact wants_a; (first | exact ov_load_oa rfl hg cA rfl | exact ov_load_oa rfl hg dA rfl | exact ov_load_oa rfl hg cK rfl | exact ov_load_oa rfl hg dK rfl | exact ov_a); (exact rfl)) | refine zy ?_ | refine zon fun _ => ?_ | refine zoa fun vr lr hr => ?_ | ((first | apply ao_call | apply aq_call); exact wants_a; (first | exact oc_func rfl | exact oc_clos rfl rfl); (exact rfl); (first | exact fun w hw => one w hw.below | exact fun w hw => two w (res_k (l0 := [(g1, .cells cs.toArray 27)]) hw hko hkc cut_a) hw.below)) | refine zoS (fun _ => ?_) (fun _ => ?_) | refine zqS (fun _ => ?_) (fun _ => ?_) | refine zwS (fun _ => ?_) (fun _ => ?_))
            exact lq_normal' ⟨k + 1, x, y + 1, false, rfl, by omega, by omega, by omega, ⟨fun h => (by cases h), fun h => absurd h.2 (no_not hqk hki hke)⟩, rfl, rfl⟩ (by omega) (by repeat (first | exact sub_nil | refine sub_cons rfl ?_)) hsub_a
          · have hkt := key_f hke
            repeat' (first | refine aw_seq ?_ | ((first | apply ao_val | apply aq_val); exact wants_a; (first | exact ov_load_oa rfl hg cA rfl | exact ov_load_oa rfl hg dA rfl | exact ov_load_oa rfl hg cK rfl | exact ov_load_oa rfl hg dK rfl | exact ov_a); (exact rfl)) | refine zy ?_ | refine zon fun _ => ?_ | refine zoa fun vr lr hr => ?_ | ((first | apply ao_call | apply aq_call); exact wants_a; (first | exact oc_func rfl | exact oc_clos rfl rfl); (exact rfl); (first | exact fun w hw => one w hw.below | exact fun w hw => two w (res_k (l0 := [(g1, .cells cs.toArray 27)]) hw hko hkc cut_a) hw.below)) | refine zoS (fun _ => ?_) (fun _ => ?_) | refine zqS (fun _ => ?_) (fun _ => ?_) | refine zwS (fun _ => ?_) (fun _ => ?_))
            exact lq_normal' ⟨k + 1, x, y + 1, b2, rfl, by omega, by omega, by omega, by rw [no_same hqk (.inr hke)]; exact hb2, rfl, rfl⟩ (by omega) (by repeat (first | exact sub_nil | refine sub_cons rfl ?_)) hsub_a
      · rw [decide_eq_false e1] at one
        rw [decide_eq_false e2] at two
        rw [if_neg e1] at n1
        rw [if_neg e2] at n2
        by_cases hki : k = i
        · have hkb : ((k : Int) != (i : Int)) = false := bne_eq_false_iff_eq.2 (by omega)
          repeat' (first | refine aw_seq ?_ | ((first | apply ao_val | apply aq_val); exact wants_a; (first | exact ov_load_oa rfl hg cA rfl | exact ov_load_oa rfl hg dA rfl | exact ov_load_oa rfl hg cK rfl | exact ov_load_oa rfl hg dK rfl | exact ov_a); (exact rfl)) | refine zy ?_ | refine zon fun _ => ?_ | refine zoa fun vr lr hr => ?_ | ((first | apply ao_call | apply aq_call); exact wants_a; (first | exact oc_func rfl | exact oc_clos rfl rfl); (exact rfl); (first | exact fun w hw => one w hw.below | exact fun w hw => two w (res_k (l0 := [(g1, .cells cs.toArray 27)]) hw hko hkc cut_a) hw.below)) | refine zoS (fun _ => ?_) (fun _ => ?_) | refine zqS (fun _ => ?_) (fun _ => ?_) | refine zwS (fun _ => ?_) (fun _ => ?_))
          exact lq_normal' ⟨k + 1, x, y, b2, rfl, by omega, by omega, by omega, by rw [no_same hqk (.inl hki)]; exact hb2, rfl, rfl⟩ (by omega) (by repeat (first | exact sub_nil | refine sub_cons rfl ?_)) hsub_a
        · have hkb : ((k : Int) != (i : Int)) = true := bne_iff_ne.2 (by omega)
          by_cases hke : keyEq ok o
          · have hkt := key_t hke
            repeat' (first | refine aw_seq ?_ | ((first | apply ao_val | apply aq_val); exact wants_a; (first | exact ov_load_oa rfl hg cA rfl | exact ov_load_oa rfl hg dA rfl | exact ov_load_oa rfl hg cK rfl | exact ov_load_oa rfl hg dK rfl | exact ov_a); (exact rfl)) | refine zy ?_ | refine zon fun _ => ?_ | refine zoa fun vr lr hr => ?_ | ((first | apply ao_call | apply aq_call); exact wants_a; (first | exact oc_func rfl | exact oc_clos rfl rfl); (exact rfl); (first | exact fun w hw => one w hw.below | exact fun w hw => two w (res_k (l0 := [(g1, .cells cs.toArray 27)]) hw hko hkc cut_a) hw.below)) | refine zoS (fun _ => ?_) (fun _ => ?_) | refine zqS (fun _ => ?_) (fun _ => ?_) | refine zwS (fun _ => ?_) (fun _ => ?_))
            exact lq_normal' ⟨k + 1, x, y, false, rfl, by omega, by omega, by omega, ⟨fun h => (by cases h), fun h => absurd h.2 (no_not hqk hki hke)⟩, rfl, rfl⟩ (by omega) (by repeat (first | exact sub_nil | refine sub_cons rfl ?_)) hsub_a
          · have hkt := key_f hke
            repeat' (first | refine aw_seq ?_ | ((first | apply ao_val | apply aq_val); exact wants_a; (first | exact ov_load_oa rfl hg cA rfl | exact ov_load_oa rfl hg dA rfl | exact ov_load_oa rfl hg cK rfl | exact ov_load_oa rfl hg dK rfl | exact ov_a); (exact rfl)) | refine zy ?_ | refine zon fun _ => ?_ | refine zoa fun vr lr hr => ?_ | ((first | apply ao_call | apply aq_call); exact wants_a; (first | exact oc_func rfl | exact oc_clos rfl rfl); (exact rfl); (first | exact fun w hw => one w hw.below | exact fun w hw => two w (res_k (l0 := [(g1, .cells cs.toArray 27)]) hw hko hkc cut_a) hw.below)) | refine zoS (fun _ => ?_) (fun _ => ?_) | refine zqS (fun _ => ?_) (fun _ => ?_) | refine zwS (fun _ => ?_) (fun _ => ?_))
            exact lq_normal' ⟨k + 1, x, y, b2, rfl, by omega, by omega, by omega, by rw [no_same hqk (.inr hke)]; exact hb2, rfl, rfl⟩ (by omega) (by repeat (first | exact sub_nil | refine sub_cons rfl ?_)) hsub_a
    · obtain rfl : k = ps.length := by omega
      rw [show (obs ps).take ps.length = obs ps by rw [← ho1, List.take_length]] at hx
      rw [show (sortO (obs ps)).take ps.length = sortO (obs ps) by rw [← hqs, ← b3, ← obs_len qs, List.take_length], cnt_sort] at hy
      have hxy : x = y := by rw [hx, hy]
      have hrt := fun w' (hb : Below w.heap.size w w') => pright_ok 0 (u, o) 0 nilS [] (a2.2 _ m1) wl0 w' ((hv.2 _ m1).below hb) (at_0 w')
      rw [show rightE 0 o 0 (obs []) = rightO o from rfl] at hrt
      have hnb : (b2 && rightO o) = true ↔ ∀ (j : Nat) (o : Ob), j < i + 1 → (obs ps)[j]? = some o → oneP (obs ps) j o := by
        rw [Bool.and_eq_true, hb2, hb]
        constructor
        · rintro ⟨⟨h1, h2⟩, h3⟩ j o' hj hoj
          by_cases e : j = i
          · subst e
            rw [hoi] at hoj
            cases hoj
            exact ⟨h3, by rw [ho1]; exact h2⟩
          · exact h1 j o' (by omega) hoj
        · intro h
          have h4 := h i o (by omega) hoi
          exact ⟨⟨fun j o' hj hoj => h j o' (by omega) hoj, by have := h4.2; rwa [ho1] at this⟩, h4.1⟩
      have hqn : i < qs.length := by omega
      clear hb hb2 hx hy
      obtain ⟨⟨z, r⟩, hf⟩ := getP hqn
      have slK : sl (0 + (i : Int).toNat * 8 + 0) 3 cs = some [S r.k, S r.s, S r.n] := sl_of (vs := [S r.k, S r.s, S r.n]) (.inl (Nat.zero_lt_succ _)) fun j y hj => hcell i _ (i : Int) j y hf rfl (by
        rcases j with _ | _ | _ | j
        · exact hj
        · exact hj
        · exact hj
        · simp at hj)
      have hwr := b2x.2 _ (List.mem_of_getElem? hf)
      cases i with
      | zero =>
        cases b2
        · rw [Bool.false_and] at hnb
          repeat' (first | refine aw_seq ?_ | ((first | apply ao_val | apply aq_val); exact wants_a; (first | exact ov_load_oa rfl hg cA rfl | exact ov_a); (exact rfl)) | refine zy ?_ | refine zon fun _ => ?_ | refine zoa fun vr lr hr => ?_ | ((first | apply ao_call | apply aq_call); exact wants_a; (first | exact oc_func rfl | exact oc_clos rfl rfl); (exact rfl); (first | exact fun w hw => hrt w hw.below)) | refine zoS (fun _ => ?_) (fun _ => ?_) | refine zqS (fun _ => ?_) (fun _ => ?_) | refine zwS (fun _ => ?_) (fun _ => ?_))
          exact lq_normal' ⟨1, false, rfl, by omega, hnb, rfl, rfl⟩ (by omega) (by repeat (first | exact sub_nil | refine sub_cons rfl ?_)) hsub_a
        · rw [Bool.true_and] at hnb
          repeat' (first | refine aw_seq ?_ | ((first | apply ao_val | apply aq_val); exact wants_a; (first | exact ov_load_oa rfl hg cA rfl | exact ov_a); (exact rfl)) | refine zy ?_ | refine zon fun _ => ?_ | refine zoa fun vr lr hr => ?_ | ((first | apply ao_call | apply aq_call); exact wants_a; (first | exact oc_func rfl | exact oc_clos rfl rfl); (exact rfl); (first | exact fun w hw => hrt w hw.below)) | refine zoS (fun _ => ?_) (fun _ => ?_) | refine zqS (fun _ => ?_) (fun _ => ?_) | refine zwS (fun _ => ?_) (fun _ => ?_))
          exact lq_normal' ⟨1, rightO o, rfl, by omega, hnb, rfl, rfl⟩ (by omega) (by repeat (first | exact sub_nil | refine sub_cons rfl ?_)) hsub_a
      | succ i =>
        obtain ⟨⟨z2, r2⟩, hf2⟩ := getP (show i < qs.length by omega)
        have slP : sl (0 + (((i + 1 : Nat) : Int) - 1).toNat * 8 + 0) 3 cs = some [S r2.k, S r2.s, S r2.n] := sl_of (vs := [S r2.k, S r2.s, S r2.n]) (.inl (Nat.zero_lt_succ _)) fun j y hj => hcell i _ (((i + 1 : Nat) : Int) - 1) j y hf2 (by omega) (by
          rcases j with _ | _ | _ | j
          · exact hj
          · exact hj
          · exact hj
          · simp at hj)
        have hwp := b2x.2 _ (List.mem_of_getElem? hf2)
        have hlc := fun w' => Lab.less_ok r.k r.s r.n r2.k r2.s r2.n hwr.1 hwr.2.1 hwr.2.2.1 hwp.1 hwp.2.1 hwp.2.2.1 w'
        rw [show Op.bytesLess (joinB r.k r.s r.n) (joinB r2.k r2.s r2.n) = false by
          have hs := sort_srt (obs ps)
          unfold Srt at hs
          rw [← hqs] at hs
          obtain ⟨t1, t2⟩ := List.getElem?_eq_some_iff.1 (ob_at hf)
          obtain ⟨t3, t4⟩ := List.getElem?_eq_some_iff.1 (ob_at hf2)
          have := List.pairwise_iff_getElem.1 hs i (i + 1) t3 t1 (by omega)
          rw [t2, t4] at this
          exact this] at hlc
        cases b2
        · rw [Bool.false_and] at hnb
          repeat' (first | refine aw_seq ?_ | ((first | apply ao_val | apply aq_val); exact wants_a; (first | exact ov_load_oa rfl hg cA rfl | exact ov_a); (exact rfl)) | refine zy ?_ | refine zon fun _ => ?_ | refine zoa fun vr lr hr => ?_ | ((first | apply ao_call | apply aq_call); exact wants_a; (first | exact oc_func rfl | exact oc_clos rfl rfl); (exact rfl); (first | exact fun w hw => hrt w hw.below | exact fun w hw => hlc w)) | refine zoS (fun _ => ?_) (fun _ => ?_) | refine zqS (fun _ => ?_) (fun _ => ?_) | refine zwS (fun _ => ?_) (fun _ => ?_))
          exact lq_normal' ⟨i + 2, false, rfl, by omega, hnb, rfl, rfl⟩ (by omega) (by repeat (first | exact sub_nil | refine sub_cons rfl ?_)) hsub_a
        · rw [Bool.true_and] at hnb
          repeat' (first | refine aw_seq ?_ | ((first | apply ao_val | apply aq_val); exact wants_a; (first | exact ov_load_oa rfl hg cA rfl | exact ov_a); (exact rfl)) | refine zy ?_ | refine zon fun _ => ?_ | refine zoa fun vr lr hr => ?_ | ((first | apply ao_call | apply aq_call); exact wants_a; (first | exact oc_func rfl | exact oc_clos rfl rfl); (exact rfl); (first | exact fun w hw => hrt w hw.below | exact fun w hw => hlc w)) | refine zoS (fun _ => ?_) (fun _ => ?_) | refine zqS (fun _ => ?_) (fun _ => ?_) | refine zwS (fun _ => ?_) (fun _ => ?_))
          exact lq_normal' ⟨i + 2, rightO o, rfl, by omega, hnb, rfl, rfl⟩ (by omega) (by repeat (first | exact sub_nil | refine sub_cons rfl ?_)) hsub_a
  · obtain rfl : i = ps.length := by omega
    have hsi : b = true ↔ singleP (obs ps) := by rw [hb, ← single_one, ho1]
    have g1 : ∀ w', Below w.heap.size w w' → Calls Try.prog 14 #[E0 2 0 [] [] [] [] 9223372036854775807 (.slice a ps.length cp)] w' fun e w'' => e = .returned (.bool (rightE 2 zO 9223372036854775807 (obs ps))) ∧ Below w'.heap.size w' w'' := fun w' hb => pright_ok 2 (nilS, zO) 9223372036854775807 _ ps wZ a2 w' (res0 w') (hv.below hb)
    have g2 : ∀ w', ObjsAt w' (.slice va qs.length vc) qs → Calls Try.prog 14 #[E0 2 0 [] [] [] [] 9223372036854775807 (.slice va qs.length vc)] w' fun e w'' => e = .returned (.bool (rightE 2 zO 9223372036854775807 (obs qs))) ∧ Below w'.heap.size w' w'' := fun w' h => pright_ok 2 (nilS, zO) 9223372036854775807 _ qs wZ b2x w' (res0 w') h
    have c8 := fun w' (g : ObjsAt w' (.slice va qs.length vc) qs) (hb : Below w.heap.size w w') => robjs_ok (.slice va qs.length vc) _ qs ps b2x a2 w' g (hv.below hb)
    have hR : ∀ {os : List Ob}, os.length ≤ 60 → rightE 2 zO 9223372036854775807 os = relB os 9223372036854775807 := fun {os} h => by
      show (relB os _ && (decide ((0 : Int) ≤ 9223372036854775807) && decide (os.length ≤ 1000))) = _
      rw [decide_eq_true (by omega), decide_eq_true (by omega), Bool.and_self, Bool.and_true]
    have hver : ∀ o ∈ obs ps, o.ver ≤ 9223372036854775807 := fun o ho => by
      obtain ⟨p, hp, rfl⟩ := List.mem_map.1 ho
      exact (hn p hp).2
    have hbe : rightE 2 zO 9223372036854775807 (obs qs) = b := by
      rw [hR (by rw [obs_len]; omega), hqs, Bool.eq_iff_iff, single_iff hver, hsi]
    rw [hbe] at g2
    rw [hR (by rw [obs_len]; omega)] at g1
    have hrs2 : relB (obs ps) 9223372036854775807 = true → obs qs = obs ps := fun h => by rw [hqs]; exact sort_id (rise_srt (rel_iff.1 h).2)
    generalize relB (obs ps) 9223372036854775807 = br at g1 hrs2
    have qb : (b == b) = true := beq_self_eq_true _
    cases br
    · repeat' (first | refine aw_seq ?_ | refine zz ?_ | refine zon fun _ => ?_ | refine zoa fun vr lr hr => ?_ | ((first | apply ao_call | apply aq_call); exact wants_a; (first | exact oc_func rfl | exact oc_clos rfl rfl); (exact rfl); (first | exact fun w hw => g1 w hw.below | exact fun w hw => c8 w (objs_at hw hrow hk cut_a) hw.below | exact fun w hw => alive_ok w | exact fun w hw => g2 w (objs_at hw hrow hk cut_a))) | refine zoS (fun _ => ?_) (fun _ => ?_) | refine zqS (fun _ => ?_) (fun _ => ?_) | refine zwS (fun _ => ?_) (fun _ => ?_))
      exact fun w' hw => ⟨by rw [qb], hw.below⟩
    · rw [decide_eq_true (hrs2 rfl)] at c8
      repeat' (first | refine aw_seq ?_ | refine zz ?_ | refine zon fun _ => ?_ | refine zoa fun vr lr hr => ?_ | ((first | apply ao_call | apply aq_call); exact wants_a; (first | exact oc_func rfl | exact oc_clos rfl rfl); (exact rfl); (first | exact fun w hw => g1 w hw.below | exact fun w hw => c8 w (objs_at hw hrow hk cut_a) hw.below | exact fun w hw => alive_ok w | exact fun w hw => g2 w (objs_at hw hrow hk cut_a))) | refine zoS (fun _ => ?_) (fun _ => ?_) | refine zqS (fun _ => ?_) (fun _ => ?_) | refine zwS (fun _ => ?_) (fun _ => ?_))
      exact fun w' hw => ⟨by rw [qb], hw.below⟩
end Evt
end Go.Proofs.Ytifibkddjebmoaa
