/- The document's answer for layer 14: All, Over; what is gone through; a tree that acts made; conditions: at most 1,000 nodes. -/
import Derived.Test.YtkjjlppfomidbaaGreatLmc
import Derived.Test.YtkjjlppfomidbaaGreatLcg
import Derived.Test.YtkjjlppfomidbaaGreatTrq
import Derived.Test.YtkjjlppfomidbaaGreatTrs
import Derived.Test.YtkjjlppfomidbaaGreatVrparse
/- Lac: The document's answer for layer 14: All, Over; what is gone through; a tree that acts made; conditions: at most 1,000 nodes. -/
namespace Go.Proofs.YtkjjlppfomidbaaGreat
namespace Aut
open Go Go.RowKit Sx Vec Ojt Scp Lct
attribute [local irreducible] Go.Calls
set_option maxHeartbeats 16000000 in
theorem rallA_ok {w : World} {vo tv : Value} {ps : List Pu} {g : Nat} {t : Trt.Tr} {f : Bk → Tx → Int} (hO : SumAt w vo ps) (hpl : ps.length ≤ 100000) (hA : SemA (sums ps) f) (hT : Trt.TAt w g t tv) (htl : t.length ≤ 1000) (hd : ∀ e ∈ t, (Trt.pathT t e.1).length ≤ 8) (s : Tx) (i : Int) :
    Calls Tryz.prog 16 #[vo, .pointer (some ⟨g, 0, none⟩), S s, I i] w fun e w' => ∃ r, e = .returned r ∧ NewRow 96 3 w w' r (allA (sums ps) t s i).length (vcells (allA (sums ps) t s i)) := by
  have hbe := fun w' (hb : Below w.heap.size w w') => Trt.rbelow_ok (hT.below hb) htl hd s
  have hbl : (Trt.belowT t s).length ≤ 1000 := by
    unfold Trt.belowT
    rw [List.length_map]
    exact Nat.le_trans (List.length_filter_le _ _) htl
  unfold allA
  generalize Trt.belowT t s = B at hbe hbl
  refine calls1 (args := [vo, .pointer (some ⟨g, 0, none⟩), S s, I i]) Tryz.func16 rfl rfl rfl rfl ?_
  repeat' (first | refine aw_seq ?_ | ((first | apply ao_val | apply aq_val); exact wants_a; (first | exact ov_lenr rfl hr | exact ov_a); (exact rfl)) | refine zy ?_ | refine zon fun _ => ?_ | refine zoa fun vr lr hr => ?_ | (apply ao_callr; exact wants_a; (exact oc_func rfl); (exact rfl); (first | exact fun w hw => hbe w hw.below); intro vr lr hr) | refine zoS (fun _ => ?_) (fun _ => ?_) | refine zqS (fun _ => ?_) (fun _ => ?_) | refine zwS (fun _ => ?_) (fun _ => ?_))
  revert vr lr hr
  intro vb lb rb
  refine aw_for (t0 := [(0, vo), (3, I i), (9, vb), (10, .slice none 0 0), (11, I (0 : Nat))]) (fun q tm H => ∃ (k : Nat) (v : Value) (lv : Hp), q = B.length - k ∧ k ≤ B.length ∧ RowB 96 3 v lv (foldA (sums ps) i (B.take k) []).length (vcells (foldA (sums ps) i (B.take k) [])) ∧ tm = [(0, vo), (3, I i), (9, vb), (10, v), (11, I k)] ∧ H = lv ++ (lb ++ []))
    ⟨0, _, [], rfl, Nat.zero_le _, RowB.nil, rfl, rfl⟩ (by repeat (first | exact sub_nil | refine sub_cons rfl ?_)) ?_
  rintro q tm H ⟨k, v, lv, rfl, hk, hrv, rfl, rfl⟩
  by_cases hlt : k < B.length
  · obtain ⟨x, hx⟩ := Lct.getP hlt
    obtain ⟨gB, capB, csB, e1, e2, hcB⟩ := RowB.cells Trt.cells1_len rb hx
    subst e1
    subst e2
    have cX : csB[0 + (k : Int).toNat * 1]? = some (S x) := hcB 0 _ rfl
    have ht1 : B.take (k + 1) = B.take k ++ [x] := by rw [List.take_add_one, hx]; rfl
    have hp := hA.fold i _ (B.take k) rfl (by have := List.length_take_le k B; omega)
    obtain ⟨wv, wl⟩ := hA.wf hp (by have := List.length_take_le k B; omega)
    have h1 := hA.single x i
    obtain ⟨w1, l1⟩ := hA.wf h1 (by simp)
    have hget := fun w' (hb : Below w.heap.size w w') => rgetS_ok (hO.below hb) hpl (x, i)
    have hadd := fun w' u (hu : VecAt w' u _) (hb : Below w.heap.size w w') => vadd_ok u _ (foldA (sums ps) i (B.take k) []) (getS (sums ps) (x, i)) wv w1 (by omega) (by omega) w' hu ((hO.below hb).get (x, i))
    have hnx := fold_snoc (sums ps) i x (B.take k) []
    rw [← ht1] at hnx
    rw [← hnx] at hadd
    generalize combV false (foldA (sums ps) i (B.take k) []) (getS (sums ps) (x, i)) = X at hadd
    repeat' (first | refine aw_seq ?_ | refine zz ?_ | refine zon fun _ => ?_ | refine zoa fun vr lr hr => ?_ | ((first | apply ao_call | apply aq_call); exact wants_a; (first | exact oc_func rfl | exact oc_clos rfl rfl | exact oc_bnd rfl rfl); (exact rfl); (first | exact fun w hw => hget w hw.below)) | (apply ao_callr2; exact wants_a; (exact oc_func rfl); (exact rfl); (first | exact fun w hw => hadd w _ (hw.oldr hrv cut_a) hw.below); intro vr lr hr) | refine zoS (fun _ => ?_) (fun _ => ?_) | refine zqS (fun _ => ?_) (fun _ => ?_) | refine zwS (fun _ => ?_) (fun _ => ?_))
    exact lq_normal' (H' := lr ++ ([(gB, .cells csB.toArray 9 (0, 0))] ++ [])) ⟨k + 1, vr, lr, rfl, by omega, hr, rfl, rfl⟩ (by omega) (by repeat (first | exact sub_nil | refine sub_cons rfl ?_)) hsub_a
  · obtain rfl : k = B.length := by omega
    rw [List.take_length] at hrv
    repeat' (first | refine aw_seq ?_ | ((first | apply ao_val | apply aq_val); exact wants_a; (first | exact ov_lenr rfl rb | exact ov_a); (exact rfl)) | refine zy ?_ | refine zon fun _ => ?_ | refine zoa fun vr lr hr => ?_ | refine zoS (fun _ => ?_) (fun _ => ?_) | refine zqS (fun _ => ?_) (fun _ => ?_) | refine zwS (fun _ => ?_) (fun _ => ?_))
    exact fun w' hw => ⟨_, rfl, hw.below, _, hrv, fun b o hm => hw.at_ b o (List.mem_append_left _ hm)⟩
set_option maxHeartbeats 8000000 in
theorem roverA_ok {w : World} {vo tv : Value} {ps : List Pu} {g : Nat} {t : Trt.Tr} {f : Bk → Tx → Int} (hO : SumAt w vo ps) (hpl : ps.length ≤ 100000) (hA : SemA (sums ps) f) (hT : Trt.TAt w g t tv) (htl : t.length ≤ 1000) (hd : ∀ e ∈ t, (Trt.pathT t e.1).length ≤ 8) (s : Tx) (i : Int) :
    Calls Tryz.prog 18 #[vo, .pointer (some ⟨g, 0, none⟩), S s, I i] w fun e w' => e = .returned (.bool (!(vfitsB (allA (sums ps) t s i)))) ∧ Below w.heap.size w w' := by
  have hall := fun w' (hb : Below w.heap.size w w') => rallA_ok (hO.below hb) hpl hA (hT.below hb) htl hd s i
  have hbl : (Trt.belowT t s).length ≤ 1000 := by
    unfold Trt.belowT
    rw [List.length_map]
    exact Nat.le_trans (List.length_filter_le _ _) htl
  obtain ⟨wv, wl⟩ := hA.wf (hA.all t (by omega) s i) (by omega)
  have hfi := fun v w' hv => vfits_ok v (allA (sums ps) t s i) wv w' hv
  refine calls1 (args := [vo, .pointer (some ⟨g, 0, none⟩), S s, I i]) Tryz.func18 rfl rfl rfl rfl ?_
  repeat' (first | refine aw_seq ?_ | refine zz ?_ | refine zon fun _ => ?_ | refine zoa fun vr lr hr => ?_ | ((first | apply ao_call | apply aq_call); exact wants_a; (first | exact oc_func rfl | exact oc_clos rfl rfl | exact oc_bnd rfl rfl); (exact rfl); (first | exact fun w hw => hfi _ w (hw.oldr (by assumption) cut_a))) | (apply ao_callr; exact wants_a; (exact oc_func rfl); (exact rfl); (first | exact fun w hw => hall w hw.below); intro vr lr hr) | refine zoS (fun _ => ?_) (fun _ => ?_) | refine zqS (fun _ => ?_) (fun _ => ?_) | refine zwS (fun _ => ?_) (fun _ => ?_))
  exact fun w' hw => ⟨rfl, hw.below⟩
def fit14 (ss : List Sc) (os : List Evt.PO) (ac : List Trt.Ac) : Bool := fitSc ss && (Trt.fitA ac && (decide (os.length ≤ 40) && os.all fun p => fitO p.2))
set_option maxHeartbeats 16000000 in
theorem fits14_ok {v0 v1 v2 : Value} {ss : List Sc} {os : List Evt.PO} {ac : List Trt.Ac} (w : World) (hv : ScsAt w v0 ss) (ho : Evt.ObjsAt w v1 os) (ha : OldRow w 3 v2 ac.length (ac.flatMap Trt.cellsA)) :
    Calls Tryz.prog 5 #[v0, v1, v2] w fun e w' => e = .returned (.bool (fit14 ss os ac)) ∧ Below w.heap.size w w' := by
  have h1 := fun w' (hb : Below w.heap.size w w') => fits13_ok v0 ss w' (hv.below hb)
  have h2 := fun w' (hb : Below w.heap.size w w') => Trt.fits11_ok v2 ac w' (OldRow.below ha hb)
  obtain ⟨a, cp, rfl, hat⟩ := OldRow.cells Evt.cellsO_len ho.1
  refine calls1 (args := [v0, .slice a os.length cp, v2]) Tryz.func5 rfl rfl rfl rfl ?_
  unfold fit14
  cases hq1 : fitSc ss
  · rw [hq1] at h1
    generalize Trt.fitA ac = z at h2
    repeat' (first | refine aw_seq ?_ | refine zz ?_ | refine zon fun _ => ?_ | refine zoa fun vr lr hr => ?_ | ((first | apply ao_call | apply aq_call); exact wants_a; (first | exact oc_func rfl | exact oc_clos rfl rfl | exact oc_bnd rfl rfl); (exact rfl); (first | exact fun w hw => h1 w hw.below | exact fun w hw => h2 w hw.below)) | refine zoS (fun _ => ?_) (fun _ => ?_) | refine zqS (fun _ => ?_) (fun _ => ?_) | refine zwS (fun _ => ?_) (fun _ => ?_))
    all_goals exact fun w' hw => ⟨rfl, hw.below⟩
  cases hq2 : Trt.fitA ac
  · rw [hq1] at h1
    rw [hq2] at h2
    repeat' (first | refine aw_seq ?_ | refine zz ?_ | refine zon fun _ => ?_ | refine zoa fun vr lr hr => ?_ | ((first | apply ao_call | apply aq_call); exact wants_a; (first | exact oc_func rfl | exact oc_clos rfl rfl | exact oc_bnd rfl rfl); (exact rfl); (first | exact fun w hw => h1 w hw.below | exact fun w hw => h2 w hw.below)) | refine zoS (fun _ => ?_) (fun _ => ?_) | refine zqS (fun _ => ?_) (fun _ => ?_) | refine zwS (fun _ => ?_) (fun _ => ?_))
    all_goals exact fun w' hw => ⟨rfl, hw.below⟩
  rw [hq1] at h1
  rw [hq2] at h2
  by_cases h40 : 40 < os.length
  · rw [decide_eq_false (show ¬ os.length ≤ 40 by omega)]
    repeat' (first | refine aw_seq ?_ | refine zz ?_ | refine zon fun _ => ?_ | refine zoa fun vr lr hr => ?_ | ((first | apply ao_call | apply aq_call); exact wants_a; (first | exact oc_func rfl | exact oc_clos rfl rfl | exact oc_bnd rfl rfl); (exact rfl); (first | exact fun w hw => h1 w hw.below | exact fun w hw => h2 w hw.below)) | refine zoS (fun _ => ?_) (fun _ => ?_) | refine zqS (fun _ => ?_) (fun _ => ?_) | refine zwS (fun _ => ?_) (fun _ => ?_))
    exact fun w' hw => ⟨rfl, hw.below⟩
  rw [decide_eq_true (show os.length ≤ 40 by omega)]
  repeat' (first | refine aw_seq ?_ | refine zz ?_ | refine zon fun _ => ?_ | refine zoa fun vr lr hr => ?_ | ((first | apply ao_call | apply aq_call); exact wants_a; (first | exact oc_func rfl | exact oc_clos rfl rfl | exact oc_bnd rfl rfl); (exact rfl); (first | exact fun w hw => h1 w hw.below | exact fun w hw => h2 w hw.below)) | refine zoS (fun _ => ?_) (fun _ => ?_) | refine zqS (fun _ => ?_) (fun _ => ?_) | refine zwS (fun _ => ?_) (fun _ => ?_))
  refine aw_for (t0 := [(1, .slice a os.length cp), (9, I (0 : Nat))]) (fun q t H => ∃ i : Nat, q = os.length - i ∧ i ≤ os.length ∧ (∀ (j : Nat) (p : Evt.PO), j < i → os[j]? = some p → fitO p.2 = true) ∧ t = [(1, .slice a os.length cp), (9, I i)] ∧ H = []) ⟨0, rfl, by omega, fun j p hj => by omega, rfl, rfl⟩ (by repeat (first | exact sub_nil | refine sub_cons rfl ?_)) ?_
  rintro q t H ⟨i, rfl, hi, hall, rfl, rfl⟩
  by_cases hlt : i < os.length
  · obtain ⟨⟨y, r⟩, he⟩ := Lct.getP hlt
    obtain ⟨g, o1, rfl, hg, hc⟩ := hat i _ (i : Int) he rfl
    have cA : ∀ (j : Nat) z, [S r.k, S r.s, S r.n, I r.ver, S r.c, .bool r.tm, .bool r.bs, y][j]? = some z → w.cell? ⟨g, o1 + (i : Int).toNat * 8 + j, none⟩ = some z := hc
    have m1 := List.mem_of_getElem? he
    have hr := fun w' (hb : Below w.heap.size w w') => Ojt.fits_ok r y w' ((ho.2 _ m1).below hb)
    cases hq : fitO r
    · rw [hq] at hr
      rw [show (os.all fun p => fitO p.2) = false from List.all_eq_false.2 ⟨_, m1, by simp only; rw [hq]; decide⟩]
      repeat' (first | refine aw_seq ?_ | ((first | apply ao_val | apply aq_val); exact wants_a; (first | exact ov_load_oa rfl hg cA rfl | exact ov_a); (exact rfl)) | refine zy ?_ | refine zon fun _ => ?_ | refine zoa fun vr lr hr => ?_ | ((first | apply ao_call | apply aq_call); exact wants_a; (first | exact oc_func rfl | exact oc_clos rfl rfl | exact oc_bnd rfl rfl); (exact rfl); (first | exact fun w hw => hr w hw.below)) | refine zoS (fun _ => ?_) (fun _ => ?_) | refine zqS (fun _ => ?_) (fun _ => ?_) | refine zwS (fun _ => ?_) (fun _ => ?_))
      exact fun w' hw => ⟨rfl, hw.below⟩
    · rw [hq] at hr
      repeat' (first | refine aw_seq ?_ | ((first | apply ao_val | apply aq_val); exact wants_a; (first | exact ov_load_oa rfl hg cA rfl | exact ov_a); (exact rfl)) | refine zy ?_ | refine zon fun _ => ?_ | refine zoa fun vr lr hr => ?_ | ((first | apply ao_call | apply aq_call); exact wants_a; (first | exact oc_func rfl | exact oc_clos rfl rfl | exact oc_bnd rfl rfl); (exact rfl); (first | exact fun w hw => hr w hw.below)) | refine zoS (fun _ => ?_) (fun _ => ?_) | refine zqS (fun _ => ?_) (fun _ => ?_) | refine zwS (fun _ => ?_) (fun _ => ?_))
      exact lq_normal' ⟨i + 1, rfl, by omega, fun j z hj hz => by
        by_cases e1 : j = i
        · subst e1; rw [he] at hz; cases hz; exact hq
        · exact hall j z (by omega) hz, rfl, rfl⟩ (by omega) (by repeat (first | exact sub_nil | refine sub_cons rfl ?_)) hsub_a
  · obtain rfl : i = os.length := by omega
    rw [show (os.all fun p => fitO p.2) = true from List.all_eq_true.2 fun p hp => by
      obtain ⟨j, hj⟩ := List.getElem?_of_mem hp
      exact hall j p (List.getElem?_eq_some_iff.1 hj).1 hj]
    repeat' (first | refine aw_seq ?_ | refine zz ?_ | refine zon fun _ => ?_ | refine zoa fun vr lr hr => ?_ | refine zoS (fun _ => ?_) (fun _ => ?_) | refine zqS (fun _ => ?_) (fun _ => ?_) | refine zwS (fun _ => ?_) (fun _ => ?_))
    exact fun w' hw => ⟨rfl, hw.below⟩
def growT (ac : List Trt.Ac) : Trt.Tr := ac.foldl (fun t a => (Trt.doT (Lab.rightB a.n) t a.kind a.n a.o).2) Trt.Tr.new
theorem grow_take {ac : List Trt.Ac} {i : Nat} {a : Trt.Ac} (h : ac[i]? = some a) : growT (ac.take (i + 1)) = (Trt.doT (Lab.rightB a.n) (growT (ac.take i)) a.kind a.n a.o).2 := by
  unfold growT
  rw [List.take_add_one, h, List.foldl_append]
  rfl
theorem grow_fit : ∀ (n : Nat) {ac : List Trt.Ac}, (∀ a ∈ ac, Trt.fitN a) → Trt.FitT (growT (ac.take n))
  | 0, _, _ => Trt.FitT.new
  | n + 1, ac, h => by
    cases hx : ac[n]? with
    | none => rw [show ac.take (n + 1) = ac.take n by rw [List.take_add_one, hx]; simp]; exact grow_fit n h
    | some a =>
      rw [grow_take hx]
      exact Trt.fit_doT (grow_fit n h) a.kind (h a (List.mem_of_getElem? hx)).1 a.o
def DTwo (t : Trt.Tr) (u : Value) (l : Hp) : Prop := ∃ (gt gx : Nat) (lt lx : Hp), u = .tuple #[.pointer (some ⟨gt, 0, none⟩), .pointer (some ⟨gx, 0, none⟩)] ∧ l = lx ++ lt ∧ Trt.LTr t gt lt ∧ Trt.RTr gx t lx
set_option maxHeartbeats 16000000 in
theorem grown_ok {v : Value} {ac : List Trt.Ac} (w : World) (ha : OldRow w 3 v ac.length (ac.flatMap Trt.cellsA)) (hk : ∀ a ∈ ac, 0 ≤ a.kind) (hl : ac.length ≤ 1000) (hf : ∀ a ∈ ac, Trt.fitN a) :
    Calls Tryz.prog 7 #[v] w fun e w' => ∃ u, e = .returned u ∧ NewD (DTwo (growT ac)) w w' u := by
  obtain ⟨b, cq, rfl, hbt⟩ := OldRow.cells Trt.cellsA_len ha
  refine calls2 (args := [.slice b ac.length cq]) Tryz.func7 rfl rfl rfl rfl ?_
  repeat' (first | refine aw_seq ?_ | refine zz ?_ | refine zon fun _ => ?_ | refine zoa fun vr lr hr => ?_ | ((apply ao_callD; exact wants_a; (exact oc_func rfl); (exact rfl); (intro w hw; exact Trt.tnew_ok w); intro vr lr hr; obtain ⟨gt, hvr, hL⟩ := hr; subst hvr)) | ((apply ao_callD; exact wants_a; (exact oc_func rfl); (exact rfl); (intro w hw; exact Trt.rbegin_ok w); intro vr lm hr; obtain ⟨gx, hvr, hR⟩ := hr; subst hvr)) | refine zoS (fun _ => ?_) (fun _ => ?_) | refine zqS (fun _ => ?_) (fun _ => ?_) | refine zwS (fun _ => ?_) (fun _ => ?_))
  refine aw_for (t0 := [(0, .slice b ac.length cq), (4, .pointer (some ⟨gt, 0, none⟩)), (5, .pointer (some ⟨gx, 0, none⟩)), (6, I (0 : Nat))]) (fun q t H => ∃ (i : Nat) (l lm : Hp), q = ac.length - i ∧ i ≤ ac.length ∧ Trt.LTr (growT (ac.take i)) gt l ∧ Trt.RTr gx (growT (ac.take i)) lm ∧
      t = [(0, .slice b ac.length cq), (4, .pointer (some ⟨gt, 0, none⟩)), (5, .pointer (some ⟨gx, 0, none⟩)), (6, I i)] ∧ H = lm ++ (l ++ []))
    ⟨0, lr, lm, rfl, by omega, hL, hR, rfl, rfl⟩ (by repeat (first | exact sub_nil | refine sub_cons rfl ?_)) ?_
  clear hL hR
  rintro q t H ⟨i, l, lm, rfl, hi, hL, hR, rfl, rfl⟩
  have hF := grow_fit i hf
  by_cases hlt : i < ac.length
  · obtain ⟨⟨kind, n, o⟩, he⟩ := Lct.getP hlt
    have m1 := List.mem_of_getElem? he
    have hk0 := hk _ m1
    have hkk := hf _ m1
    obtain ⟨ga, o1, rfl, hg, hc⟩ := hbt i _ (i : Int) he rfl
    have cA : ∀ (j : Nat) z, [.int .u8 kind, S n, S o][j]? = some z → w.cell? ⟨ga, o1 + (i : Int).toNat * 3 + j, none⟩ = some z := hc
    have hdo := fun m R => Trt.ldo_ok (m := m) (w0 := w) hL hF ⟨kind, n, o⟩ hk0 hkk R
    have hwa := fun m R => Trt.rwant_ok (m := m) (w0 := w) hR hF ⟨kind, n, o⟩ hk0 hkk R
    have hnx := grow_take he
    unfold Trt.LDid at hdo
    unfold Trt.RDid at hwa
    simp only at hdo hwa hnx
    generalize Trt.doT (Lab.rightB n) (growT (ac.take i)) kind n o = X at hdo hwa hnx
    obtain ⟨er, t2⟩ := X
    simp only at hdo hwa hnx
    repeat' (first | refine aw_seq ?_ | ((first | apply ao_val | apply aq_val); exact wants_a; (first | exact ov_load_oa rfl hg cA rfl | exact ov_a); (exact rfl)) | refine zy ?_ | refine zon fun _ => ?_ | refine zoa fun vr lr hr => ?_ | ((apply ao_callH (l := l); exact wants_a; (exact oc_func rfl); (exact rfl); (exact Cut.skipA lm Cut.here); (exact hdo _ _); rintro _ _ ⟨rfl, l2, rfl, hL2⟩)) | ((apply ao_callH (l := lm); exact wants_a; (exact oc_func rfl); (exact rfl); (exact Cut.skipA l2 Cut.here); (exact hwa _ _); rintro _ _ ⟨rfl, lm2, rfl, hR2⟩)) | refine zoS (fun _ => ?_) (fun _ => ?_) | refine zqS (fun _ => ?_) (fun _ => ?_) | refine zwS (fun _ => ?_) (fun _ => ?_))
    exact lq_normal' ⟨i + 1, l2, lm2, rfl, by omega, by rw [hnx]; exact hL2, by rw [hnx]; exact hR2, rfl, rfl⟩ (by omega) (by repeat (first | exact sub_nil | refine sub_cons rfl ?_)) hsub_a
  · obtain rfl : i = ac.length := by omega
    rw [List.take_length] at hL hR
    repeat' (first | refine aw_seq ?_ | refine zz ?_ | refine zon fun _ => ?_ | refine zoa fun vr lr hr => ?_ | refine zoS (fun _ => ?_) (fun _ => ?_) | refine zqS (fun _ => ?_) (fun _ => ?_) | refine zwS (fun _ => ?_) (fun _ => ?_))
    exact fun w' hw => ⟨_, rfl, hw.toD rfl (l := lm ++ l) (R := []) (by unfold Cut; simp) ⟨_, _, _, _, rfl, rfl, hL, hR⟩⟩
end Aut
end Go.Proofs.YtkjjlppfomidbaaGreat
/- Lae: What a load makes is sums that are some; whether all fits; conditions: at most 500 objects. -/
namespace Go.Proofs.YtkjjlppfomidbaaGreat
namespace Aut
open Go Go.RowKit Sx Vec Ojt Scp Lct
theorem load_A {scs : List (List Trm)} (h8 : scs.length ≤ 8) {os : List Ob} (hl : os.length ≤ 500) (hw : ∀ o ∈ os, wfO o) (hr : os.all rightO = true) : ∃ L, loadS scs os = (L, 0) ∧ SemA L (fun b n => cnt scs b n os) := by
  have hr2 := List.all_eq_true.1 hr
  have hN := names_len hw
  have hg := good_of (sp := os.map (·.s)) (os := os) (ps := os) (fun _ h => h) hw hr2 fun o h => List.mem_map.2 ⟨o, h, rfl⟩
  obtain ⟨L, h1, h2, -⟩ := load_sem h8 (Ns := namesO os) (by omega) (by rw [List.length_map]; omega) (fun s hs => by
    obtain ⟨o, ho, rfl⟩ := List.mem_map.1 hs
    exact (hw o ho).2.1) os [] (fun _ _ => 0) 0 hg BaseF.zero (by omega) ⟨fun _ => rfl, fun _ _ => rfl, List.nodup_nil, fun e h => by cases h⟩
  refine ⟨L, ?_, ⟨_, h2.congr fun b n => by omega⟩, ⟨namesO os, by omega, fun b n hn => (cnt_few scs b n hg).2 hn⟩, fun b n => ?_⟩
  · unfold loadS
    rw [if_pos hr]
    exact h1
  · have := (cnt_few scs b n hg).1
    omega
theorem load_no {scs : List (List Trm)} {os : List Ob} (hr : os.all rightO = false) : loadS scs os = ([], 1) := by
  unfold loadS
  rw [if_neg (by rw [hr]; decide)]
section
variable {L : List Su} {f : Bk → Tx → Int} (hA : SemA L f) {t : Trt.Tr} (ht : Trt.WfT t) (hl : t.length ≤ 200)
include hA ht hl
end
end Aut
end Go.Proofs.YtkjjlppfomidbaaGreat
/- Lal: The contracts of the landed table, in the walks' forms; conditions: at most 200 nodes. -/
namespace Go.Proofs.YtkjjlppfomidbaaGreat
namespace Aut
open Go Go.RowKit Sx Vec Ojt Scp Lct
attribute [local irreducible] Go.Calls
instance : TyPtr Tryz.prog 31 82 := ⟨by kernel_rfl⟩
abbrev objA (gb mb : Nat) : Obj := .cells #[.pointer (some ⟨gb, 0, none⟩), .map (some mb)] 82 (0, 0)
def LAu (scs : List (List Trm)) (L : List Su) (t : Trt.Tr) (g : Nat) (l : Hp) : Prop := ∃ (gb mb : Nat) (X : List (En Bk)) (c : Nat) (lo lv : Hp), l = (g, objA gb mb) :: (mb, mapO encB X c) :: (lo ++ lv) ∧
  LLo scs L gb lo ∧ AllF L t scs.length X c lv ∧ (∀ b ∈ L.map (·.1), 0 ≤ b.2 ∧ b.2 < (scs.length : Int)) ∧ Trt.WfT t ∧ t.length ≤ 200 ∧ Small L
theorem wf_obs {os : List Evt.PO} (hwo : ∀ p ∈ os, wfO p.2) : ∀ o ∈ Evt.obs os, wfO o := fun o ho => by
  obtain ⟨p, hp, rfl⟩ := List.mem_map.1 ho
  exact hwo p hp
set_option maxHeartbeats 32000000 in
theorem auf_t {w : World} {v0 v1 : Value} {ss : List Sc} {os : List Evt.PO} {t : Trt.Tr} {gt : Nat} {lt : Hp} (hs : ScsAt w v0 ss) (hws : ∀ s ∈ ss, wfP s.2) (hsl : ss.length ≤ 20) (ho : Evt.ObjsAt w v1 os) (hol : os.length ≤ 1000) (hwo : ∀ p ∈ os, wfO p.2) (hT : Trt.LTr t gt lt) (hft : Trt.FitT t) (hl : Lies w lt)
    (hr : rightScs (scT ss) = true) {L : List Su} (h0 : loadS (scT ss) (Evt.obs os) = (L, 0)) {f : Bk → Tx → Int} (hL : SemA L f) :
    Calls Tryz.prog 8 #[v0, v1, .pointer (some ⟨gt, 0, none⟩)] w fun e w' => ∃ r, e = .returned (.tuple #[r, I 0]) ∧ NewD (fun r l => ∃ g, r = .pointer (some ⟨g, 0, none⟩) ∧ LAu (scT ss) L t g l) w w' r := by
  have hsc : (scT ss).length = ss.length := List.length_map _
  have h8 : ss.length ≤ 8 := by
    unfold rightScs at hr
    rw [Bool.and_eq_true, decide_eq_true_eq, List.length_map] at hr
    exact hr.2
  have hwl := wf_obs hwo
  have hlo : (Evt.obs os).length ≤ 1000 := by rw [List.length_map]; exact hol
  have hky := loadS_keys (scT ss) (Evt.obs os)
  have hsm := (loadS_bnd (scs := scT ss) (by omega) hwl hlo).small hlo
  rw [h0] at hky hsm
  obtain ⟨a, cp, rfl, -⟩ := OldRow.cells cellsSc_len hs.1
  have hnw := fun w' (hb : Below w.heap.size w w') => lonew_t (hs.below hb) hws hsl hr
  have hld := fun {gl : Nat} {lg : Hp} (hLo : LLo (scT ss) [] gl lg) m R => loload_ok (m := m) (w0 := w) hLo (by omega) (by omega) hwo (smallL_of (by omega) _ hwl BndU.nil (by omega)) R fun n w' hw => ho.below hw.below
  have had := fun {gl : Nat} {lg : Hp} (hLo : LLo (scT ss) L gl lg) w' (hb : Below w.heap.size w w') (hg : Lies w' lg) => added_ok hLo hsm hL hT hft (n := ss.length) (by omega) w' hg (hl.below hb)
  unfold LoadD at hld
  rw [h0] at hld
  refine calls2 (args := [.slice a ss.length cp, v1, .pointer (some ⟨gt, 0, none⟩)]) Tryz.func8 rfl rfl rfl rfl ?_
  repeat' (first | refine aw_seq ?_ | ((first | apply ao_val | apply aq_val); exact wants_a; (first | exact ov_peqs rfl rfl | exact ov_nilcheck rfl | exact ov_a); (exact rfl)) | refine zy ?_ | refine zon fun _ => ?_ | refine zoa fun vr lr hr => ?_ | ((apply ao_callD; exact wants_a; (exact oc_func rfl); (exact rfl); (intro w hw; exact hnw w hw.below); rintro _ lg ⟨gl, rfl, hLo⟩)) | ((apply ao_callH (l := lg); exact wants_a; (exact oc_func rfl); (exact rfl); (exact cut_a); (exact hld hLo _ _); rintro _ _ ⟨rfl, lg2, rfl, hLo2⟩)) | ((apply ao_callD; exact wants_a; (exact oc_func rfl); (exact rfl); (intro w hw; exact had hLo2 w hw.below (lies_of hw (l := lg2) cut_a)); rintro _ la ⟨mb, X, c, lv, rfl, rfl, hF⟩)) | refine zoS (fun _ => ?_) (fun _ => ?_) | refine zqS (fun _ => ?_) (fun _ => ?_) | refine zwS (fun _ => ?_) (fun _ => ?_))
  rename_i ga
  rw [← hsc] at hF
  exact fun w' hw => ⟨_, rfl, hw.toD rfl (l := (ga, objA gl mb) :: (mb, mapO encB X c) :: (lg2 ++ lv)) (R := []) (List.Perm.trans (l₂ := (ga, objA gl mb) :: (((mb, mapO encB X c) :: lv) ++ (lg2 ++ []))) (List.Perm.refl _) (by classical exact List.perm_iff_count.2 fun z => by simp only [List.count_append, List.count_cons, List.count_nil]; omega)) ⟨ga, rfl, gl, mb, X, c, lg2, lv, rfl, hLo2, hF, hky, hft.wf, hft.len, hsm⟩⟩
set_option maxHeartbeats 32000000 in
theorem auf_f {w : World} {v0 v1 : Value} {ss : List Sc} {os : List Evt.PO} {t : Trt.Tr} {gt : Nat} {lt : Hp} (hs : ScsAt w v0 ss) (hws : ∀ s ∈ ss, wfP s.2) (hsl : ss.length ≤ 20) (ho : Evt.ObjsAt w v1 os) (hol : os.length ≤ 1000) (hwo : ∀ p ∈ os, wfO p.2) (_hT : Trt.LTr t gt lt) (_hft : Trt.FitT t) (_hl : Lies w lt)
    (hr : rightScs (scT ss) = false ∨ (Evt.obs os).all rightO = false) :
    Calls Tryz.prog 8 #[v0, v1, .pointer (some ⟨gt, 0, none⟩)] w fun e w' => e = .returned (.tuple #[.pointer none, I 1]) ∧ Below w.heap.size w w' := by
  have hwl := wf_obs hwo
  have hlo : (Evt.obs os).length ≤ 1000 := by rw [List.length_map]; exact hol
  obtain ⟨a, cp, rfl, -⟩ := OldRow.cells cellsSc_len hs.1
  refine calls2 (args := [.slice a ss.length cp, v1, .pointer (some ⟨gt, 0, none⟩)]) Tryz.func8 rfl rfl rfl rfl ?_
  cases hq : rightScs (scT ss)
  · have hnw := fun w' (hb : Below w.heap.size w w') => lonew_f (hs.below hb) hws hsl hq
    repeat' (first | refine aw_seq ?_ | ((first | apply ao_val | apply aq_val); exact wants_a; (first | exact ov_peqs rfl rfl | exact ov_nilcheck rfl | exact ov_a); (exact rfl)) | refine zy ?_ | refine zon fun _ => ?_ | refine zoa fun vr lr hr => ?_ | ((first | apply ao_call | apply aq_call); exact wants_a; (first | exact oc_func rfl | exact oc_clos rfl rfl | exact oc_bnd rfl rfl); (exact rfl); (first | exact fun w hw => hnw w hw.below)) | refine zoS (fun _ => ?_) (fun _ => ?_) | refine zqS (fun _ => ?_) (fun _ => ?_) | refine zwS (fun _ => ?_) (fun _ => ?_))
    exact fun w' hw => ⟨rfl, hw.below⟩
  have h8 : (scT ss).length ≤ 8 := by
    unfold rightScs at hq
    rw [Bool.and_eq_true, decide_eq_true_eq] at hq
    exact hq.2
  rw [hq] at hr
  have hro : (Evt.obs os).all rightO = false := hr.resolve_left fun h => by cases h
  have hnw := fun w' (hb : Below w.heap.size w w') => lonew_t (hs.below hb) hws hsl hq
  have hld := fun {gl : Nat} {lg : Hp} (hLo : LLo (scT ss) [] gl lg) m R => loload_ok (m := m) (w0 := w) hLo h8 (by omega) hwo (smallL_of (by omega) _ hwl BndU.nil (by omega)) R fun n w' hw => ho.below hw.below
  unfold LoadD at hld
  rw [load_no hro] at hld
  repeat' (first | refine aw_seq ?_ | ((first | apply ao_val | apply aq_val); exact wants_a; (first | exact ov_peqs rfl rfl | exact ov_nilcheck rfl | exact ov_a); (exact rfl)) | refine zy ?_ | refine zon fun _ => ?_ | refine zoa fun vr lr hr => ?_ | ((apply ao_callD; exact wants_a; (exact oc_func rfl); (exact rfl); (intro w hw; exact hnw w hw.below); rintro _ lg ⟨gl, rfl, hLo⟩)) | ((apply ao_callH (l := lg); exact wants_a; (exact oc_func rfl); (exact rfl); (exact cut_a); (exact hld hLo _ _); rintro _ _ ⟨rfl, lg2, rfl, hLo2⟩)) | refine zoS (fun _ => ?_) (fun _ => ?_) | refine zqS (fun _ => ?_) (fun _ => ?_) | refine zwS (fun _ => ?_) (fun _ => ?_))
  exact fun w' hw => ⟨rfl, hw.below⟩
theorem auf0_ok (w : World) : Calls Tryz.prog 8 #[.slice none 0 0, .slice none 0 0, .pointer none] w fun e w' => e = .returned (.tuple #[.pointer none, I 1]) ∧ Below w.heap.size w w' := by
  refine calls2 (args := [.slice none 0 0, .slice none 0 0, .pointer none]) Tryz.func8 rfl rfl rfl rfl ?_
  repeat' (first | refine aw_seq ?_ | ((first | apply ao_val | apply aq_val); exact wants_a; (first | exact ov_peq0 rfl rfl | exact ov_a); (exact rfl)) | refine zy ?_ | refine zon fun _ => ?_ | refine zoa fun vr lr hr => ?_ | refine zoS (fun _ => ?_) (fun _ => ?_) | refine zqS (fun _ => ?_) (fun _ => ?_) | refine zwS (fun _ => ?_) (fun _ => ?_))
  exact fun w' hw => ⟨rfl, hw.below⟩
section
variable {scs : List (List Trm)} {L : List Su} {t : Trt.Tr} {g : Nat} {l : Hp} {f : Bk → Tx → Int}
set_option maxHeartbeats 8000000 in
theorem auown_ok (h : LAu scs L t g l) (_hL : SemA L f) (s : Tx) (i : Int) (w : World) (hl : Lies w l) : Calls Tryz.prog 13 #[.pointer (some ⟨g, 0, none⟩), S s, I i] w fun e w' => ∃ r, e = .returned r ∧ NewRow 96 3 w w' r (getS L (s, i)).length (vcells (getS L (s, i))) := by
  obtain ⟨gb, mb, X, c, lo, lv, rfl, hLo, hF, hky, hw, h200, hsm⟩ := h
  have hg := lies_lt hl List.mem_cons_self
  have cO : w.cell? ⟨g, 0, none⟩ = some (.pointer (some ⟨gb, 0, none⟩)) := lies_cell (cs := [.pointer (some ⟨gb, 0, none⟩), .map (some mb)]) hl List.mem_cons_self rfl
  have hlo : Lies w lo := hl.sub fun x hx => List.mem_cons_of_mem _ (List.mem_cons_of_mem _ (List.mem_append_left _ hx))
  have hsu := fun w' (hb : Below w.heap.size w w') => losum_ok hLo hsm s i w' (hlo.below hb)
  refine calls1 (args := [.pointer (some ⟨g, 0, none⟩), S s, I i]) Tryz.func13 rfl rfl rfl rfl ?_
  repeat' (first | refine aw_seq ?_ | ((first | apply ao_val | apply aq_val); exact wants_a; (first | exact ov_peqs rfl rfl | exact ov_nilcheck rfl | exact ov_load_o rfl hg cO | exact ov_a); (exact rfl)) | refine zy ?_ | refine zon fun _ => ?_ | refine zoa fun vr lr hr => ?_ | (apply ao_callr; exact wants_a; (exact oc_func rfl); (exact rfl); (first | exact fun w hw => hsu w hw.below); intro vr lr hr) | refine zoS (fun _ => ?_) (fun _ => ?_) | refine zqS (fun _ => ?_) (fun _ => ?_) | refine zwS (fun _ => ?_) (fun _ => ?_))
  exact fun w' hw => ⟨_, rfl, hw.below, _, (by assumption), fun b o hm => hw.at_ b o (List.mem_append_left _ hm)⟩
set_option maxHeartbeats 8000000 in
theorem auall_ok (h : LAu scs L t g l) (hL : SemA L f) (s : Tx) (i : Int) (w : World) (hl : Lies w l) : Calls Tryz.prog 15 #[.pointer (some ⟨g, 0, none⟩), S s, I i] w fun e w' => ∃ r, e = .returned r ∧ NewRow 96 3 w w' r (allA L t s i).length (vcells (allA L t s i)) := by
  obtain ⟨gb, mb, X, c, lo, lv, rfl, hLo, hF, hky, hw, h200, hsm⟩ := h
  have hg := lies_lt hl List.mem_cons_self
  have cM : w.cell? ⟨g, 0 + 1, none⟩ = some (.map (some mb)) := lies_cell (cs := [.pointer (some ⟨gb, 0, none⟩), .map (some mb)]) hl List.mem_cons_self rfl
  have hmb := hl mb _ (List.mem_cons_of_mem _ List.mem_cons_self)
  have hml := lies_lt hl (List.mem_cons_of_mem _ List.mem_cons_self)
  obtain ⟨x1, x2⟩ := hF.mp.fnd (s, i)
  have hv := x1 hF.vs (w := w) (hl.sub fun x hx => List.mem_cons_of_mem _ (List.mem_cons_of_mem _ (List.mem_append_right _ hx)))
  rw [show (if (s, i) ∈ X.map (·.1) then allA L t (s, i).1 (s, i).2 else []) = allA L t s i by
    by_cases hk : (s, i) ∈ X.map (·.1)
    · rw [if_pos hk]
    · rw [if_neg hk]
      exact (hF.none hw hky hk).symm] at hv
  have hlen := (hL.wf (hL.all t (by omega) s i) (by have := below_len t s; omega)).2
  have hcl := fun w' (hb : Below w.heap.size w w') => cloneV_ok (OldRow.below hv.1 hb) (vcells_flat _) (by omega)
  clear x1 hv
  generalize valB X (s, i) = u at x2 hcl
  refine calls1 (args := [.pointer (some ⟨g, 0, none⟩), S s, I i]) Tryz.func15 rfl rfl rfl rfl ?_
  repeat' (first | refine aw_seq ?_ | ((first | apply ao_val | apply aq_val); exact wants_a; (first | exact ov_peqs rfl rfl | exact ov_nilcheck rfl | exact ov_load_o rfl hg cM | exact x2 false rfl rfl (mapAt_old hmb hml) | exact ov_a); (exact rfl)) | refine zy ?_ | refine zon fun _ => ?_ | refine zoa fun vr lr hr => ?_ | (apply ao_callr; exact wants_a; (exact oc_func rfl); (exact rfl); (first | exact fun w hw => hcl w hw.below); intro vr lr hr) | refine zoS (fun _ => ?_) (fun _ => ?_) | refine zqS (fun _ => ?_) (fun _ => ?_) | refine zwS (fun _ => ?_) (fun _ => ?_))
  exact fun w' hw => ⟨_, rfl, hw.below, _, (by assumption), fun b o hm => hw.at_ b o (List.mem_append_left _ hm)⟩
set_option maxHeartbeats 8000000 in
theorem auover_ok (h : LAu scs L t g l) (hL : SemA L f) (s : Tx) (i : Int) (w : World) (hl : Lies w l) : Calls Tryz.prog 17 #[.pointer (some ⟨g, 0, none⟩), S s, I i] w fun e w' => e = .returned (.bool (!(vfitsB (allA L t s i)))) ∧ Below w.heap.size w w' := by
  have hal := fun w' (hb : Below w.heap.size w w') => auall_ok h hL s i w' (hl.below hb)
  obtain ⟨gb, mb, X, c, lo, lv, rfl, hLo, hF, hky, hw, h200, hsm⟩ := h
  have hwf := (hL.wf (hL.all t (by omega) s i) (by have := below_len t s; omega)).1
  have hfi := fun u w' hu => pfits_ok u (allA L t s i) hwf w' hu
  generalize allA L t s i = As at hal hfi
  refine calls1 (args := [.pointer (some ⟨g, 0, none⟩), S s, I i]) Tryz.func17 rfl rfl rfl rfl ?_
  repeat' (first | refine aw_seq ?_ | refine zz ?_ | refine zon fun _ => ?_ | refine zoa fun vr lr hr => ?_ | ((first | apply ao_call | apply aq_call); exact wants_a; (first | exact oc_func rfl | exact oc_clos rfl rfl | exact oc_bnd rfl rfl); (exact rfl); (first | exact fun w hw => hfi _ w (hw.oldr (by assumption) cut_a))) | (apply ao_callr; exact wants_a; (exact oc_func rfl); (exact rfl); (first | exact fun w hw => hal w hw.below); intro vr lr hr) | refine zoS (fun _ => ?_) (fun _ => ?_) | refine zqS (fun _ => ?_) (fun _ => ?_) | refine zwS (fun _ => ?_) (fun _ => ?_))
  exact fun w' hw => ⟨rfl, hw.below⟩
end
theorem auown0_ok (s : Tx) (i : Int) (w : World) : Calls Tryz.prog 13 #[.pointer none, S s, I i] w fun e w' => ∃ r, e = .returned r ∧ NewRow 96 3 w w' r 0 [] := by
  refine calls1 (args := [.pointer none, S s, I i]) Tryz.func13 rfl rfl rfl rfl ?_
  repeat' (first | refine aw_seq ?_ | ((first | apply ao_val | apply aq_val); exact wants_a; (first | exact ov_peq0 rfl rfl | exact ov_a); (exact rfl)) | refine zy ?_ | refine zon fun _ => ?_ | refine zoa fun vr lr hr => ?_ | refine zoS (fun _ => ?_) (fun _ => ?_) | refine zqS (fun _ => ?_) (fun _ => ?_) | refine zwS (fun _ => ?_) (fun _ => ?_))
  exact fun w' hw => ⟨_, rfl, hw.below, [], RowB.nil, fun _ _ h => by cases h⟩
theorem auall0_ok (s : Tx) (i : Int) (w : World) : Calls Tryz.prog 15 #[.pointer none, S s, I i] w fun e w' => ∃ r, e = .returned r ∧ NewRow 96 3 w w' r 0 [] := by
  refine calls1 (args := [.pointer none, S s, I i]) Tryz.func15 rfl rfl rfl rfl ?_
  repeat' (first | refine aw_seq ?_ | ((first | apply ao_val | apply aq_val); exact wants_a; (first | exact ov_peq0 rfl rfl | exact ov_a); (exact rfl)) | refine zy ?_ | refine zon fun _ => ?_ | refine zoa fun vr lr hr => ?_ | refine zoS (fun _ => ?_) (fun _ => ?_) | refine zqS (fun _ => ?_) (fun _ => ?_) | refine zwS (fun _ => ?_) (fun _ => ?_))
  exact fun w' hw => ⟨_, rfl, hw.below, [], RowB.nil, fun _ _ h => by cases h⟩
theorem auover0_ok (s : Tx) (i : Int) (w : World) : Calls Tryz.prog 17 #[.pointer none, S s, I i] w fun e w' => e = .returned (.bool false) ∧ Below w.heap.size w w' := by
  have hfi := fun u w' hu => pfits_ok u [] wfV_nil w' hu
  refine calls1 (args := [.pointer none, S s, I i]) Tryz.func17 rfl rfl rfl rfl ?_
  repeat' (first | refine aw_seq ?_ | refine zz ?_ | refine zon fun _ => ?_ | refine zoa fun vr lr hr => ?_ | ((first | apply ao_call | apply aq_call); exact wants_a; (first | exact oc_func rfl | exact oc_clos rfl rfl | exact oc_bnd rfl rfl); (exact rfl); (first | exact fun w hw => hfi _ w (hw.oldr (by assumption) cut_a))) | (apply ao_callr; exact wants_a; (exact oc_func rfl); (exact rfl); (first | exact fun w hw => auall0_ok s i w); intro vr lr hr) | refine zoS (fun _ => ?_) (fun _ => ?_) | refine zqS (fun _ => ?_) (fun _ => ?_) | refine zwS (fun _ => ?_) (fun _ => ?_))
  exact fun w' hw => ⟨rfl, hw.below⟩
end Aut
end Go.Proofs.YtkjjlppfomidbaaGreat
