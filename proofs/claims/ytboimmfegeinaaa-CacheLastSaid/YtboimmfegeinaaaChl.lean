/- The walk of CacheLast of layer 8; conditions: none. -/
import Derived.Test.YtboimmfegeinaaaChb
namespace Go.Proofs.Ytboimmfegeinaaa
namespace Chm
open Go Go.RowKit Sx Lab Vec Ojt Evt
attribute [local irreducible] Go.Calls

def distE (es : List PE) (i : Nat) : Prop := ∀ (a b : Nat) (e f : PE), a < i → b < a → es[a]? = some e → es[b]? = some f → e.p.2.ver ≠ f.p.2.ver
theorem dist_all {es : List PE} (h : distE es es.length) : ∀ e ∈ es.map evE, ∀ f ∈ es.map evE, e.o.ver = f.o.ver → e = f := by
  intro e he f hf hv
  obtain ⟨x, hx, rfl⟩ := List.mem_map.1 he
  obtain ⟨y, hy, rfl⟩ := List.mem_map.1 hf
  obtain ⟨a, ha⟩ := List.getElem?_of_mem hx
  obtain ⟨b, hb⟩ := List.getElem?_of_mem hy
  have la := (List.getElem?_eq_some_iff.1 ha).1
  have lb := (List.getElem?_eq_some_iff.1 hb).1
  rcases Nat.lt_trichotomy a b with h1 | rfl | h1
  · exact absurd hv.symm (h b a y x lb h1 hb ha)
  · rw [ha] at hb; cases hb; rfl
  · exact absurd hv (h a b x y la h1 ha hb)

theorem obs_wf {qs : List PO} (h : wfL qs) : ∀ q ∈ obs qs, wfS q := fun q hq => by
  obtain ⟨p, hp, rfl⟩ := List.mem_map.1 hq
  exact h.2 p hp
set_option maxHeartbeats 64000000 in
theorem last_ok (v : Value) (es : List PE) (hn : ∀ e ∈ es, numE e) (w : World) (hv : EvsAt w v es) : Calls Try.prog 5 #[v] w fun e w' => e = .returned (.bool true) ∧ Below w.heap.size w w' := by
  have hfit := fun w' (hb : Below w.heap.size w w') => fits8_ok v es w' (hv.below hb)
  obtain ⟨a, cp, rfl, hat⟩ := OldRow.cells cellsE_len hv.1
  refine calls1 (args := [.slice a es.length cp]) Try.func5 rfl rfl rfl rfl ?_
  cases hq : fitEs es
  · rw [hq] at hfit
    repeat' (first | refine aw_seq ?_ | refine zz ?_ | refine zon fun _ => ?_ | refine zoa fun vr lr hr => ?_ | ((first | apply ao_call | apply aq_call); exact wants_a; (first | exact oc_func rfl | exact oc_clos rfl rfl); (exact rfl); (first | exact fun w hw => hfit w hw.below | exact fun w hw => palive_ok w)) | refine zoS (fun _ => ?_) (fun _ => ?_) | refine zqS (fun _ => ?_) (fun _ => ?_) | refine zwS (fun _ => ?_) (fun _ => ?_))
    exact fun w' hw => ⟨rfl, hw.below⟩
  rw [hq] at hfit
  obtain ⟨h60, hwf⟩ := fitEs_wf hq hn
  repeat' (first | refine aw_seq ?_ | refine zz ?_ | refine zon fun _ => ?_ | refine zoa fun vr lr hr => ?_ | ((first | apply ao_call | apply aq_call); exact wants_a; (first | exact oc_func rfl | exact oc_clos rfl rfl); (exact rfl); (first | exact fun w hw => hfit w hw.below)) | refine zoS (fun _ => ?_) (fun _ => ?_) | refine zqS (fun _ => ?_) (fun _ => ?_) | refine zwS (fun _ => ?_) (fun _ => ?_))
  refine aw_for (t0 := [(0, .slice a es.length cp), (4, I (0 : Nat))]) (fun q t H => ∃ i : Nat, q = es.length - i ∧ i ≤ es.length ∧ distE es i ∧ (∀ (a : Nat) (e : PE), a < i → es[a]? = some e → e.kind = 0 ∨ e.kind = 1) ∧ t = [(0, .slice a es.length cp), (4, I i)] ∧ H = [])
    ⟨0, rfl, by omega, fun a b e f h => by omega, fun a e h => by omega, rfl, rfl⟩ (by repeat (first | exact sub_nil | refine sub_cons rfl ?_)) ?_
  rintro q t H ⟨i, rfl, hi, hd, hk, rfl, rfl⟩
  by_cases hlt : i < es.length
  · obtain ⟨⟨kind, ⟨x, o⟩, ver, v2, qs⟩, he⟩ := getP hlt
    obtain ⟨ga, o1, rfl, hg, hc⟩ := hat i _ (i : Int) he rfl
    have c0 : w.cell? ⟨ga, o1 + (i : Int).toNat * 11 + 0, none⟩ = some (I kind) := hc 0 _ rfl
    have c4 : w.cell? ⟨ga, o1 + (i : Int).toNat * 11 + 1 + 3, none⟩ = some (I o.ver) := hc 4 _ rfl
    repeat' (first | refine aw_seq ?_ | refine zz ?_ | refine zon fun _ => ?_ | refine zoa fun vr lr hr => ?_ | refine zoS (fun _ => ?_) (fun _ => ?_) | refine zqS (fun _ => ?_) (fun _ => ?_) | refine zwS (fun _ => ?_) (fun _ => ?_))
    refine aw_for (t0 := [(0, .slice (some ⟨ga, o1, none⟩) es.length cp), (4, I i), (5, I (0 : Nat))]) (fun q t H => ∃ k : Nat, q = i - k ∧ k ≤ i ∧ (∀ (b : Nat) (f : PE), b < k → es[b]? = some f → o.ver ≠ f.p.2.ver) ∧ t = [(0, .slice (some ⟨ga, o1, none⟩) es.length cp), (4, I i), (5, I k)] ∧ H = [])
      ⟨0, rfl, by omega, fun b f h => by omega, rfl, rfl⟩ (by repeat (first | exact sub_nil | refine sub_cons rfl ?_)) ?_
    rintro q t H ⟨k, rfl, hki, hdk, rfl, rfl⟩
    by_cases hkl : k < i
    · obtain ⟨⟨kind2, ⟨y, p⟩, ver2, v3, qs2⟩, hf⟩ := getP (show k < es.length by omega)
      obtain ⟨gb, o2, e1, -, hc2⟩ := hat k _ (k : Int) hf rfl
      cases e1
      have d4 : w.cell? ⟨ga, o1 + (k : Int).toNat * 11 + 1 + 3, none⟩ = some (I p.ver) := hc2 4 _ rfl
      by_cases hvv : o.ver = p.ver
      · repeat' (first | refine aw_seq ?_ | refine zz ?_ | refine zon fun _ => ?_ | refine zoa fun vr lr hr => ?_ | ((first | apply ao_call | apply aq_call); exact wants_a; (first | exact oc_func rfl | exact oc_clos rfl rfl); (exact rfl); (first | exact fun w hw => palive_ok w)) | refine zoS (fun _ => ?_) (fun _ => ?_) | refine zqS (fun _ => ?_) (fun _ => ?_) | refine zwS (fun _ => ?_) (fun _ => ?_))
        exact fun w' hw => ⟨rfl, hw.below⟩
      · repeat' (first | refine aw_seq ?_ | refine zz ?_ | refine zon fun _ => ?_ | refine zoa fun vr lr hr => ?_ | ((first | apply ao_call | apply aq_call); exact wants_a; (first | exact oc_func rfl | exact oc_clos rfl rfl); (exact rfl); (first | exact fun w hw => palive_ok w)) | refine zoS (fun _ => ?_) (fun _ => ?_) | refine zqS (fun _ => ?_) (fun _ => ?_) | refine zwS (fun _ => ?_) (fun _ => ?_))
        exact lq_normal' ⟨k + 1, rfl, by omega, fun b f hb hf2 => by
          by_cases e2 : b = k
          · subst e2; rw [hf] at hf2; cases hf2; exact hvv
          · exact hdk b f (by omega) hf2, rfl, rfl⟩ (by omega) (by repeat (first | exact sub_nil | refine sub_cons rfl ?_)) hsub_a
    · obtain rfl : k = i := by omega
      have hd2 : distE es (k + 1) := fun a b e f h1 h2 h3 h4 => by
        by_cases e2 : a = k
        · subst e2; rw [he] at h3; cases h3; exact hdk b f h2 h4
        · exact hd a b e f (by omega) h2 h3 h4
      by_cases hk0 : kind = 0
      · repeat' (first | refine aw_seq ?_ | refine zz ?_ | refine zon fun _ => ?_ | refine zoa fun vr lr hr => ?_ | ((first | apply ao_call | apply aq_call); exact wants_a; (first | exact oc_func rfl | exact oc_clos rfl rfl); (exact rfl); (first | exact fun w hw => palive_ok w)) | refine zoS (fun _ => ?_) (fun _ => ?_) | refine zqS (fun _ => ?_) (fun _ => ?_) | refine zwS (fun _ => ?_) (fun _ => ?_))
        exact lq_normal' ⟨k + 1, rfl, by omega, hd2, fun a e h1 h2 => by
          by_cases e2 : a = k
          · subst e2; rw [he] at h2; cases h2; exact .inl hk0
          · exact hk a e (by omega) h2, rfl, rfl⟩ (by omega) (by repeat (first | exact sub_nil | refine sub_cons rfl ?_)) hsub_a
      · by_cases hk1 : kind = 1
        · repeat' (first | refine aw_seq ?_ | refine zz ?_ | refine zon fun _ => ?_ | refine zoa fun vr lr hr => ?_ | ((first | apply ao_call | apply aq_call); exact wants_a; (first | exact oc_func rfl | exact oc_clos rfl rfl); (exact rfl); (first | exact fun w hw => palive_ok w)) | refine zoS (fun _ => ?_) (fun _ => ?_) | refine zqS (fun _ => ?_) (fun _ => ?_) | refine zwS (fun _ => ?_) (fun _ => ?_))
          exact lq_normal' ⟨k + 1, rfl, by omega, hd2, fun a e h1 h2 => by
            by_cases e2 : a = k
            · subst e2; rw [he] at h2; cases h2; exact .inr hk1
            · exact hk a e (by omega) h2, rfl, rfl⟩ (by omega) (by repeat (first | exact sub_nil | refine sub_cons rfl ?_)) hsub_a
        · repeat' (first | refine aw_seq ?_ | refine zz ?_ | refine zon fun _ => ?_ | refine zoa fun vr lr hr => ?_ | ((first | apply ao_call | apply aq_call); exact wants_a; (first | exact oc_func rfl | exact oc_clos rfl rfl); (exact rfl); (first | exact fun w hw => palive_ok w)) | refine zoS (fun _ => ?_) (fun _ => ?_) | refine zqS (fun _ => ?_) (fun _ => ?_) | refine zwS (fun _ => ?_) (fun _ => ?_))
          exact fun w' hw => ⟨rfl, hw.below⟩
  · obtain rfl : i = es.length := by omega
    have hkind : ∀ e ∈ es, e.kind = 0 ∨ e.kind = 1 := fun e he => by
      obtain ⟨j, hj⟩ := List.getElem?_of_mem he
      exact hk j e (List.getElem?_eq_some_iff.1 hj).1 hj
    have hdist := dist_all hd
    clear hd hk
    repeat' (first | refine aw_seq ?_ | refine zz ?_ | refine zon fun _ => ?_ | refine zoa fun vr lr hr => ?_ | ((apply ao_callD; exact wants_a; (exact oc_func rfl); (exact rfl); (intro w hw; exact pnew_ok w); intro vr lr hr)) | refine zoS (fun _ => ?_) (fun _ => ?_) | refine zqS (fun _ => ?_) (fun _ => ?_) | refine zwS (fun _ => ?_) (fun _ => ?_))
    rename_i vA lA rA
    obtain ⟨gc, hvA, hLA⟩ := rA
    obtain ⟨gd, hvB, hLB⟩ := hr
    subst hvA hvB
    refine aw_for (t0 := [(0, .slice a es.length cp), (6, .pointer (some ⟨gc, 0, none⟩)), (7, .pointer (some ⟨gd, 0, none⟩)), (8, I (0 : Nat))]) (fun q t H => ∃ (i : Nat) (st st2 : St) (l l2 : Hp), q = es.length - i ∧ i ≤ es.length ∧ LCh st gc l ∧ LCh st2 gd l2 ∧ FitSt st ∧ FitSt st2 ∧ st.gs.length ≤ i ∧ st2.gs.length ≤ i ∧
        Last st ((es.take i).map evE) ∧ Last st2 ((es.reverse.take i).map evE) ∧ t = [(0, .slice a es.length cp), (6, .pointer (some ⟨gc, 0, none⟩)), (7, .pointer (some ⟨gd, 0, none⟩)), (8, I i)] ∧ H.Perm (l ++ l2))
      ⟨0, .new, .new, lA, lr, rfl, by omega, hLA, hLB, fit_new, fit_new, Nat.le_refl _, Nat.le_refl _, Last.new, Last.new, rfl, by rw [List.append_nil]; exact List.perm_append_comm⟩ (by repeat (first | exact sub_nil | refine sub_cons rfl ?_)) ?_
    clear hLA hLB
    rintro q t H ⟨i, st, st2, l, l2, rfl, hi, hL, hL2, hF, hF2, hg1, hg2, hS, hS2, rfl, hperm⟩
    refine aw_permH hperm ?_
    clear hperm
    by_cases hlt : i < es.length
    · obtain ⟨⟨kind, ⟨x, o⟩, ver, v2, qs⟩, he⟩ := getP hlt
      obtain ⟨⟨kind2, ⟨y, p⟩, ver2, v3, qs2⟩, hf⟩ := getP (show es.length - 1 - i < es.length by omega)
      have m1 := List.mem_of_getElem? he
      have m2 := List.mem_of_getElem? hf
      obtain ⟨hwo, hw2, hl3⟩ := hwf _ m1
      obtain ⟨ho, hv2⟩ := hv.2 _ m1
      obtain ⟨hwp, hw3, hl4⟩ := hwf _ m2
      obtain ⟨hp, hv3⟩ := hv.2 _ m2
      simp only at hwo hw2 hl3 ho hv2 hwp hw3 hl4 hp hv3
      obtain ⟨g1, o1, e1, hg, hc⟩ := hat i _ (i : Int) he rfl
      cases e1
      obtain ⟨g2, o2, e2, -, hc2⟩ := hat (es.length - 1 - i) _ ((es.length : Int) - 1 - (i : Int)) hf (by omega)
      cases e2
      have cA : ∀ (j : Nat) z, [I kind, S o.k, S o.s, S o.n, I o.ver, S o.c, .bool o.tm, .bool o.bs, x, I ver, v2][j]? = some z → w.cell? ⟨g1, o1 + (i : Int).toNat * 11 + j, none⟩ = some z := hc
      have cB : ∀ (j : Nat) z, [I kind2, S p.k, S p.s, S p.n, I p.ver, S p.c, .bool p.tm, .bool p.bs, y, I ver2, v3][j]? = some z → w.cell? ⟨g1, o1 + ((es.length : Int) - 1 - (i : Int)).toNat * 11 + j, none⟩ = some z := hc2
      have hpa := fun m R => papply_ok (m := m) (w0 := w) hL hF kind (x, o) ver v2 qs hwo hw2 (by omega) ho hv2 R
      have hpb := fun m R => papply_ok (m := m) (w0 := w) hL2 hF2 kind2 (y, p) ver2 v3 qs2 hwp hw3 (by omega) hp hv3 R
      obtain ⟨hG, hgn⟩ := fit_ap hF (by omega) (kind := kind) (ver := ver) (qs := obs qs) hwo (by rw [obs_len]; omega) (obs_wf hw2)
      obtain ⟨hG2, hgn2⟩ := fit_ap hF2 (by omega) (kind := kind2) (ver := ver2) (qs := obs qs2) hwp (by rw [obs_len]; omega) (obs_wf hw3)
      have hT := hS.step (e := evE ⟨kind, (x, o), ver, v2, qs⟩) (hkind _ m1) (by rw [List.length_map, List.length_take]; omega)
      have hT2 := hS2.step (e := evE ⟨kind2, (y, p), ver2, v3, qs2⟩) (hkind _ m2) (by rw [List.length_map, List.length_take]; omega)
      have hrev : es.reverse[i]? = some ⟨kind2, (y, p), ver2, v3, qs2⟩ := by rw [List.getElem?_reverse hlt]; exact hf
      have hn1 : (es.take (i + 1)).map evE = (es.take i).map evE ++ [evE ⟨kind, (x, o), ver, v2, qs⟩] := by rw [List.take_add_one, he, List.map_append]; rfl
      have hn2 : (es.reverse.take (i + 1)).map evE = (es.reverse.take i).map evE ++ [evE ⟨kind2, (y, p), ver2, v3, qs2⟩] := by rw [List.take_add_one, hrev, List.map_append]; rfl
      rw [← hn1] at hT
      rw [← hn2] at hT2
      simp only [evE] at hT hT2
      simp only at hpa hpb
      generalize apO st kind o ver (obs qs) = X at hpa hG hgn hT
      generalize apO st2 kind2 p ver2 (obs qs2) = Y at hpb hG2 hgn2 hT2
      obtain ⟨er, dd, st3⟩ := X
      obtain ⟨er2, dd2, st4⟩ := Y
      simp only at hpa hpb hG hG2 hgn hgn2 hT hT2
      repeat' (first | refine aw_seq ?_ | ((first | apply ao_val | apply aq_val); exact wants_a; (first | exact ov_load_oa rfl hg cA rfl | exact ov_load_oa rfl hg cB rfl | exact ov_a); (exact rfl)) | refine zy ?_ | refine zon fun _ => ?_ | refine zoa fun vr lr hr => ?_ | ((apply ao_callH (l := l); exact wants_a; (exact oc_func rfl); (exact rfl); (exact Cut.here); (exact hpa _ _); rintro _ _ ⟨rd, ld, l3, rfl, rfl, hL3, hD⟩)) | ((apply ao_callH (l := l2); exact wants_a; (exact oc_func rfl); (exact rfl); (exact Cut.skipA ld List.perm_append_comm); (exact hpb _ _); rintro _ _ ⟨rd2, ld2, l4, rfl, rfl, hL4, hD2⟩)) | refine zoS (fun _ => ?_) (fun _ => ?_) | refine zqS (fun _ => ?_) (fun _ => ?_) | refine zwS (fun _ => ?_) (fun _ => ?_))
      exact lq_normal' (H' := l4 ++ l3) ⟨i + 1, st3, st4, l3, l4, rfl, by omega, hL3, hL4, hG, hG2, by omega, by omega, hT, hT2, rfl, List.perm_append_comm⟩ (by omega) (by repeat (first | exact sub_nil | refine sub_cons rfl ?_)) (List.Sublist.trans (List.Sublist.append_left (List.sublist_append_right _ _) l4) (List.sublist_append_right _ _))
    · obtain rfl : i = es.length := by omega
      rw [List.take_length] at hS
      rw [show es.reverse.take es.length = es.reverse by rw [← List.length_reverse, List.take_length]] at hS2
      obtain ⟨hkeq, hoseq⟩ := last_same hS hS2 (fun e => by simp) hdist
      clear hS hS2
      have hka := fun w' (hl : Lies w' l) k => pknown_ok hL hF k w' hl
      have hkb := fun w' (hl : Lies w' l2) k => pknown_ok hL2 hF2 k w' hl
      simp only [← hkeq] at hkb
      repeat' (first | refine aw_seq ?_ | refine zz ?_ | refine zon fun _ => ?_ | refine zoa fun vr lr hr => ?_ | refine zoS (fun _ => ?_) (fun _ => ?_) | refine zqS (fun _ => ?_) (fun _ => ?_) | refine zwS (fun _ => ?_) (fun _ => ?_))
      refine aw_for (t0 := [(0, .slice a es.length cp), (6, .pointer (some ⟨gc, 0, none⟩)), (7, .pointer (some ⟨gd, 0, none⟩)), (9, I (0 : Nat))]) (fun q t H => ∃ i : Nat, q = es.length - i ∧ i ≤ es.length ∧ t = [(0, .slice a es.length cp), (6, .pointer (some ⟨gc, 0, none⟩)), (7, .pointer (some ⟨gd, 0, none⟩)), (9, I i)] ∧ H = l ++ l2)
        ⟨0, rfl, by omega, rfl, rfl⟩ (by repeat (first | exact sub_nil | refine sub_cons rfl ?_)) ?_
      rintro q t H ⟨i, rfl, hi, rfl, rfl⟩
      by_cases hlt : i < es.length
      · obtain ⟨⟨kind, ⟨x, o⟩, ver, v2, qs⟩, he⟩ := getP hlt
        obtain ⟨g1, o1, e1, hg, hc⟩ := hat i _ (i : Int) he rfl
        cases e1
        have cK : ∀ (j : Nat) z, [S o.k, S o.s, S o.n][j]? = some z → w.cell? ⟨g1, o1 + (i : Int).toNat * 11 + 1 + 0 + j, none⟩ = some z := fun j z hj => by
          rw [Nat.add_zero, Nat.add_assoc]
          refine hc (1 + j) z ?_
          rcases j with _ | _ | _ | j <;> first | exact hj | simp at hj
        have hka2 := fun w' hl => hka w' hl (keyO o)
        have hkb2 := fun w' hl => hkb w' hl (keyO o)
        generalize knO st (keyO o) = K at hka2 hkb2
        repeat' (first | refine aw_seq ?_ | ((first | apply ao_val | apply aq_val); exact wants_a; (first | exact ov_load_oa rfl hg cK rfl | exact ov_a); (exact rfl)) | refine zy ?_ | refine zon fun _ => ?_ | refine zoa fun vr lr hr => ?_ | ((first | apply ao_call | apply aq_call); exact wants_a; (first | exact oc_func rfl | exact oc_clos rfl rfl); (exact rfl); (first | exact fun w hw => hka2 w (lies_of hw (l := l) cut_a) | exact fun w hw => hkb2 w (lies_of hw (l := l2) (Cut.skip _ List.perm_append_comm)))) | refine zoS (fun _ => ?_) (fun _ => ?_) | refine zqS (fun _ => ?_) (fun _ => ?_) | refine zwS (fun _ => ?_) (fun _ => ?_))
        exact lq_normal' ⟨i + 1, rfl, by omega, rfl, rfl⟩ (by omega) (by repeat (first | exact sub_nil | refine sub_cons rfl ?_)) hsub_a
      · obtain rfl : i = es.length := by omega
        have hao := hF.os
        have haw := hF.wf
        have hob := fun w' (hl : Lies w' l2) => pobjects_ok hL2 hF2 w' hl
        rw [← hoseq] at hob
        have hsm : ∀ {H R1 R2 : Hp} {v11 v14 : Value} {l11 l14 : Hp} (w' : World), RepH ⟨w.heap.size, w, _⟩ H w' → DObjs st.os v11 l11 → Cut H l11 R1 → DObjs st.os v14 l14 → Cut H l14 R2 → _ := fun w' hw a b c d => sameTwo (n := Try.f5.ntmps) hw a b c d hao hao haw haw
        rw [decide_eq_true (rfl : st.os = st.os)] at hsm
        repeat' (first | refine aw_seq ?_ | refine zz ?_ | refine zon fun _ => ?_ | refine zoa fun vr lr hr => ?_ | ((first | apply ao_call | apply aq_call); exact wants_a; (first | exact oc_func rfl | exact oc_clos rfl rfl); (exact rfl); (first | exact fun w hw => hsm w hw r11 cut_a r14 cut_a | exact fun w hw => palive_ok w)) | ((apply ao_callD; exact wants_a; (exact oc_func rfl); (exact rfl); (intro w hw; exact pobjects_ok hL hF w (lies_of hw (l := l) Cut.here)); intro v11 l11 r11)) | ((apply ao_callD; exact wants_a; (exact oc_func rfl); (exact rfl); (intro w hw; exact hob w (lies_of hw (l := l2) (Cut.skipA l11 List.perm_append_comm))); intro v14 l14 r14)) | refine zoS (fun _ => ?_) (fun _ => ?_) | refine zqS (fun _ => ?_) (fun _ => ?_) | refine zwS (fun _ => ?_) (fun _ => ?_))
        exact fun w' hw => ⟨rfl, hw.below⟩
end Chm
end Go.Proofs.Ytboimmfegeinaaa
