/- The landed code's deltas of a relist: the first loop; conditions: names of at most 1,000 bytes, at most 1,000 objects. -/
import Derived.Test.YtdakeicfhbggeaaGreatCdf
/- Cdg: The landed code's deltas of a relist: the first loop; conditions: names of at most 1,000 bytes, at most 1,000 objects. -/
namespace Go.Proofs.YtdakeicfhbggeaaGreat
namespace Chm
open Go Go.RowKit Sx Lab Vec Ojt Evt
attribute [local irreducible] Go.Calls
theorem pd_flat {d : PD} {l : Hp} (h : KD d l) : (cellsD d).all Value.oneCell' = true := by
  obtain ⟨l1, l2, -, h1, h2⟩ := h
  obtain ⟨key, had, has, ⟨ov, oo⟩, ⟨nv, no⟩⟩ := d
  obtain ⟨a1, c1, e1⟩ := h1.len
  obtain ⟨a2, c2, e2⟩ := h2.len
  simp only at e1 e2
  subst e1 e2
  rfl
theorem row_d {v : Value} {l : Hp} {ps : List PD} {d : PD} {e : TypeId} (h : RowB e 21 v l (ps.length + 1) (ps.flatMap cellsD ++ cellsD d)) : RowB e 21 v l (ps ++ [d]).length ((ps ++ [d]).flatMap cellsD) := by
  rw [List.length_append, List.flatMap_append]
  simpa using h
theorem del_open {x : De} {r : Value} {l : Hp} (h : DDel x r l) : ∃ (a1 : Option Addr) (c1 : Nat) (a2 : Option Addr) (c2 : Nat), r = .agg (cellsD ⟨x.key, x.had, x.has, (.slice a1 x.old.rs.length c1, x.old), (.slice a2 x.new.rs.length c2, x.new)⟩).toArray ∧
    KD ⟨x.key, x.had, x.has, (.slice a1 x.old.rs.length c1, x.old), (.slice a2 x.new.rs.length c2, x.new)⟩ l := by
  obtain ⟨d, rfl, rfl, l1, l2, rfl, h1, h2⟩ := h
  obtain ⟨key, had, has, ⟨ov, oo⟩, ⟨nv, no⟩⟩ := d
  obtain ⟨a1, c1, e1⟩ : ∃ a c, ov = .slice a oo.rs.length c := by
    rcases h1.2 with ⟨e, h0, -⟩ | ⟨g, cap, cur, e, -⟩
    · refine ⟨none, 0, ?_⟩
      have : oo.rs.length = 0 := h0
      rw [this]; exact e
    · exact ⟨_, _, e⟩
  obtain ⟨a2, c2, e2⟩ : ∃ a c, nv = .slice a no.rs.length c := by
    rcases h2.2 with ⟨e, h0, -⟩ | ⟨g, cap, cur, e, -⟩
    · refine ⟨none, 0, ?_⟩
      have : no.rs.length = 0 := h0
      rw [this]; exact e
    · exact ⟨_, _, e⟩
  subst e1 e2
  exact ⟨a1, c1, a2, c2, rfl, l1, l2, rfl, h1, h2⟩
structure Lst (os : List Ob) (L : List (En Kt)) (c : Nat) : Prop where
  keys : L.map (·.1) = os.map keyO
  all : ∀ x ∈ L, x.2.1 = .bool true
theorem Lst.fnd {os : List Ob} {L : List (En Kt)} {c : Nat} (h : Lst os L c) (k : Kt) : (hasO os k = false ∧ fndK k L 0 = none) ∨ (hasO os k = true ∧ ∃ i, fndK k L 0 = some (i, .bool true)) := by
  cases hf : fndK k L 0 with
  | none =>
    refine .inl ⟨?_, rfl⟩
    cases hh : hasO os k
    · rfl
    · obtain ⟨q, hq, e⟩ := hasO_iff.1 hh
      have : k ∈ L.map (·.1) := by rw [h.keys]; exact List.mem_map.2 ⟨q, hq, e⟩
      obtain ⟨x, hx, e2⟩ := List.mem_map.1 this
      exact absurd e2 (fndK_none.1 hf x hx)
  | some p =>
    obtain ⟨i, u⟩ := p
    obtain ⟨-, b, hb⟩ := fndK_some hf
    have hm := List.mem_of_getElem? hb
    have hu := h.all _ hm
    simp only at hu
    subst hu
    have : k ∈ os.map keyO := by rw [← h.keys]; exact List.mem_map.2 ⟨_, hm, rfl⟩
    obtain ⟨q, hq, e⟩ := List.mem_map.1 this
    exact .inr ⟨hasO_iff.2 ⟨q, hq, e⟩, i, rfl⟩
theorem Lst.snoc {os : List Ob} {L : List (En Kt)} {c : Nat} (h : Lst os L c) (q : Ob) : Lst (os ++ [q]) (L ++ [(keyO q, .bool true, c)]) (c + 1) := by
  refine ⟨by rw [List.map_append, List.map_append, h.keys]; rfl, fun x hx => ?_⟩
  rcases List.mem_append.1 hx with hx | hx
  · exact h.all x hx
  · rw [List.mem_singleton.1 hx]
def goneB (qs : List Ob) (ver : Int) (o : Ob) : Bool := decide (o.ver ≤ ver) && !hasO qs (keyO o)
theorem Lst.look {E : Env} {t : Tm} {H : Hp} {x y : Operand} {ty : TypeId} {b c : Nat} {os : List Ob} {L : List (En Kt)} (h : Lst os L c) (k : Kt) (hx : ev t x = some (.map (some b))) (hy : ev t y = some (K3 k)) (hb : MapAt E H encKt b L c) :
    OpV Tryz.prog E (.lookup 185 x y false) ty t H (.bool (hasO os k)) := by
  rcases h.fnd k with ⟨h1, h2⟩ | ⟨h1, i, h2⟩
  · rw [h1]
    exact ov_mget0 (enc := encKt) (k := k) false hx hy hb h2
  · rw [h1]
    exact ov_mget (enc := encKt) (k := k) false hx hy hb h2
theorem perm_bi {α : Type} (x : α) (a b c d : List α) : (a ++ (b ++ (x :: (c ++ d)))).Perm (x :: (a ++ ((b ++ c) ++ d))) := by
  have := List.perm_middle (l₁ := a ++ b) (a := x) (l₂ := c ++ d)
  simpa only [List.append_assoc] using this
theorem rel_is {st : St} {qs os2 : List Ob} {ver : Int} {D : List De} (hf : Fine st) (hr : Rise qs) (hp : os2.Perm st.os) (hD : D.Perm ((qs.filter (newsB st)).map (comesD st) ++ (os2.filter (goneB qs ver)).map goesD)) (hs : D.Pairwise fun x y => lessK y.key x.key = false) :
    D = dlO st.os (rlO st qs ver) := by
  have hmem : ∀ d, d ∈ D ↔ (∃ q ∈ qs, newsB st q = true ∧ d = comesD st q) ∨ ∃ old ∈ st.os, old.ver ≤ ver ∧ hasO qs (keyO old) = false ∧ d = goesD old := fun d => by
    rw [hD.mem_iff, List.mem_append, List.mem_map, List.mem_map]
    refine or_congr ?_ ?_
    · constructor
      · rintro ⟨q, h1, rfl⟩
        obtain ⟨h2, h3⟩ := List.mem_filter.1 h1
        exact ⟨q, h2, h3, rfl⟩
      · rintro ⟨q, h2, h3, rfl⟩
        exact ⟨q, List.mem_filter.2 ⟨h2, h3⟩, rfl⟩
    · constructor
      · rintro ⟨q, h1, rfl⟩
        obtain ⟨h2, h3⟩ := List.mem_filter.1 h1
        unfold goneB at h3
        rw [Bool.and_eq_true, decide_eq_true_eq] at h3
        exact ⟨q, hp.mem_iff.1 h2, h3.1, by simpa using h3.2, rfl⟩
      · rintro ⟨q, h2, h3, h4, rfl⟩
        exact ⟨q, List.mem_filter.2 ⟨hp.mem_iff.2 h2, by unfold goneB; rw [h4, decide_eq_true h3]; rfl⟩, rfl⟩
  have hkey : ∀ d ∈ D, keyR d.key = true := fun d hd => by
    rcases (hmem d).1 hd with ⟨q, h1, -, rfl⟩ | ⟨q, h1, -, -, rfl⟩
    · exact right_keyR (hr.2 q h1)
    · exact right_keyR (hf.os.2 q h1)
  have hdis : D.Pairwise fun x y => x.key ≠ y.key := by
    refine (hD.pairwise_iff (fun h => h.symm)).2 (List.pairwise_append.2 ⟨?_, ?_, ?_⟩)
    · rw [List.pairwise_map]
      exact (hr.own.filter (p := newsB st)).imp fun h => h
    · rw [List.pairwise_map]
      have ho2 : Own os2 := (hp.pairwise_iff (fun h => h.symm)).2 hf.os.own
      exact (ho2.filter (p := goneB qs ver)).imp fun h => h
    · intro a ha b hb e
      obtain ⟨q, h1, rfl⟩ := List.mem_map.1 ha
      obtain ⟨o, h2, rfl⟩ := List.mem_map.1 hb
      have h3 := (List.mem_filter.1 h2).2
      unfold goneB at h3
      rw [Bool.and_eq_true] at h3
      have h4 : hasO qs (keyO o) = true := hasO_iff.2 ⟨q, (List.mem_filter.1 h1).1, e⟩
      rw [h4] at h3
      cases h3.2
  have h5 : D.Pairwise fun d e => keyR d.key = true ∧ keyR e.key = true := List.pairwise_iff_getElem.2 fun i j hi hj _ => ⟨hkey _ (List.getElem_mem hi), hkey _ (List.getElem_mem hj)⟩
  refine dels_unique ((List.pairwise_and_iff.2 ⟨List.pairwise_and_iff.2 ⟨hs, hdis⟩, h5⟩).imp ?_) (dl_keys _ _ hf.os (rlO_rise hf.os hr.2)).2 fun d => by rw [hmem, dl_rel hf hr]
  rintro a b ⟨⟨g1, g2⟩, g3, g4⟩
  cases hl : lessK a.key b.key
  · exact absurd (lessK_total g3 g4 hl g1) g2
  · rfl
section
variable {w : World} {g : Nat} {st : St} {mo mg : Option Nat} {X : List (PO × Nat)} {co : Nat} {G : List (Gr × Nat)} {cg : Nat}
set_option maxHeartbeats 64000000 in
theorem relisted_ok (h : CAt w g st mo mg X co G cg) (hf : Fine st) (hwf : ∀ o ∈ st.os, wfS o) (hl : st.os.length ≤ 1000) (p : PO) (ver : Int) (v : Value) (qs : List PO) (hp : wfS p.2) (hq : wfL qs) (hq3 : qs.length ≤ 1000) (ho : ResAt w p.1 p.2.rs) (hv : ObjsAt w v qs) (hr : Rise (obs qs)) :
    Calls Tryz.prog 90 #[.pointer (some ⟨g, 0, none⟩), EV 2 p ver v] w fun e w' => ∃ r, e = .returned r ∧ NewD (DDels (dlO st.os (rlO st (obs qs) ver))) w w' r := by
  have c0 := h.c0
  have lt := h.lt
  have hold : ∀ y ∈ X.map enO, y.2.2 < co := fun y hy => by
    obtain ⟨x, hx, rfl⟩ := List.mem_map.1 hy
    exact h.lx.lo x hx
  have hnod : ((X.map enO).map (·.2.2)).Nodup := by
    rw [List.map_map]
    exact h.lx.bo
  have hXl : X.length ≤ 1000 := by rw [← h.lx.os.length_eq, List.length_map] at hl; exact hl
  have hmap := fun {n : Nat} {H : Hp} => h.map_o (n := n) (H := H)
  obtain ⟨x, k, s, n, over, c, tm, bs, rs⟩ := p
  obtain ⟨xa, xc, hx⟩ := ho.len
  simp only at hx
  subst hx
  obtain ⟨a, cp, rfl, hat⟩ := OldRow.cells cellsO_len hv.1
  refine calls1 (args := [.pointer (some ⟨g, 0, none⟩), EV 2 (.slice xa rs.length xc, ⟨k, s, n, over, c, tm, bs, rs⟩) ver (.slice a qs.length cp)]) Tryz.func90 rfl rfl rfl rfl ?_
  repeat' (first | refine aw_seq ?_ | refine zz ?_ | refine zon fun _ => ?_ | refine zoa fun vr lr hr => ?_ | (apply ao_new; exact wants_a; exact on_makeMap; exact rfl; intro bm) | refine zoS (fun _ => ?_) (fun _ => ?_) | refine zqS (fun _ => ?_) (fun _ => ?_) | refine zwS (fun _ => ?_) (fun _ => ?_))
  refine aw_for (t0 := [(0, .pointer (some ⟨g, 0, none⟩)), (3, .pointer (some ⟨_, 0, none⟩)), (5, .slice none 0 0), (6, .map (some bm)), (13, .slice a qs.length cp), (14, I qs.length), (15, I (0 : Nat))]) (fun q t H => ∃ (gb bm i : Nat) (v5 : Value) (l5 ls : Hp) (ps : List PD) (L : List (En Kt)) (cl : Nat), q = qs.length - i ∧ i ≤ qs.length ∧ ps.length ≤ i ∧
    ps.map deD = (((obs qs).take i).filter (newsB st)).map (comesD st) ∧ Lst ((obs qs).take i) L cl ∧ RowB 82 21 v5 l5 ps.length (ps.flatMap cellsD) ∧ Parts KD ls ps ∧
    t = [(0, .pointer (some ⟨g, 0, none⟩)), (3, .pointer (some ⟨gb, 0, none⟩)), (5, v5), (6, .map (some bm)), (13, .slice a qs.length cp), (14, I qs.length), (15, I i)] ∧
    H = l5 ++ (ls ++ [(bm, mapO encKt L cl), (gb, .cells #[I 2, S k, S s, S n, I over, S c, .bool tm, .bool bs, .slice xa rs.length xc, I ver, .slice a qs.length cp] 73 (0, 0))])) ⟨_, _, 0, _, [], [], [], [], 0, rfl, Nat.zero_le _, Nat.le_refl _, rfl, ⟨rfl, fun _ h => by cases h⟩, RowB.nil, Parts.nil, rfl, rfl⟩ (by repeat (first | exact sub_nil | refine sub_cons rfl ?_)) ?_
  rintro q t H ⟨gb, bm, i, v5, l5, ls, ps, L, cl, rfl, hi, hpl, hps, hL, r5, hpa, rfl, rfl⟩
  by_cases hlt : i < qs.length
  · obtain ⟨⟨yv, o⟩, he⟩ := getP hlt
    have hqm := List.mem_of_getElem? he
    have hra := hv.2 _ hqm
    have hwo := hq.2 _ hqm
    obtain ⟨ya, yc, hy⟩ := hra.len
    simp only at hy hwo
    subst hy
    obtain ⟨gq, o1, rfl, hgq, hc⟩ := hat i _ (i : Int) he rfl
    have hob := ob_at he
    have hnw := fun w' (hb : Below w.heap.size w w') => news_ok (h.below hb) hf hwf (.slice ya o.rs.length yc, o) hwo (hra.below hb)
    have hcm := fun w' (hb : Below w.heap.size w w') => comes_ok (h.below hb) hf hwf (.slice ya o.rs.length yc, o) hwo (hra.below hb)
    have hfn : fndK (keyO o) L 0 = none := by
      rcases hL.fnd (keyO o) with ⟨-, h2⟩ | ⟨h2, -⟩
      · exact h2
      · exfalso
        obtain ⟨q, hq1, e⟩ := hasO_iff.1 h2
        obtain ⟨j, hj⟩ := List.getElem?_of_mem hq1
        have hji : j < i := by
          have := (List.getElem?_eq_some_iff.1 hj).1
          rw [List.length_take] at this
          omega
        rw [List.getElem?_take_of_lt hji] at hj
        obtain ⟨j1, j2⟩ := List.getElem?_eq_some_iff.1 hj
        obtain ⟨i1, i2⟩ := List.getElem?_eq_some_iff.1 hob
        have := List.pairwise_iff_getElem.1 hr.own j i j1 i1 hji
        rw [j2, i2] at this
        exact this e
    have htk : (obs qs).take (i + 1) = (obs qs).take i ++ [o] := by rw [List.take_add_one, hob]; rfl
    have hL2 := hL.snoc o
    rw [← htk] at hL2
    obtain ⟨k1, s1, n1, over1, c1, tm1, bs1, rs1⟩ := o
    cases hnb : newsB st ⟨k1, s1, n1, over1, c1, tm1, bs1, rs1⟩
    · rw [hnb] at hnw
      have hps2 : ps.map deD = (((obs qs).take (i + 1)).filter (newsB st)).map (comesD st) := by
        rw [htk, List.filter_append, List.map_append, ← hps]
        simp [hnb]
      repeat' (first | refine aw_seq ?_ | ((first | apply ao_val | apply aq_val); exact wants_a; (first | exact ov_load_oa rfl hgq hc rfl | exact ov_a); (exact rfl)) | refine zy ?_ | refine zon fun _ => ?_ | refine zoa fun vr lr hr => ?_ | ((first | apply ao_call | apply aq_call); exact wants_a; (first | exact oc_func rfl | exact oc_clos rfl rfl | exact oc_bnd rfl rfl); (exact rfl); (first | exact fun w hw => hnw w hw.below)) | ((apply ao_store; exact wants_a; (exact ow_mput (enc := encKt) (k := keyO ⟨k1, s1, n1, over1, c1, tm1, bs1, rs1⟩) rfl rfl rfl (mapAt_has has_a) hfn); exact upd_a)) | refine zoS (fun _ => ?_) (fun _ => ?_) | refine zqS (fun _ => ?_) (fun _ => ?_) | refine zwS (fun _ => ?_) (fun _ => ?_))
      exact lq_normal' ⟨gb, bm, i + 1, v5, l5, ls, ps, _, _, rfl, by omega, by omega, hps2, hL2, r5, hpa, rfl, rfl⟩ (by omega) (by repeat (first | exact sub_nil | refine sub_cons rfl ?_)) hsub_a
    · rw [hnb] at hnw
      repeat' (first | refine aw_seq ?_ | ((first | apply ao_val | apply aq_val); exact wants_a; (first | exact ov_load_oa rfl hgq hc rfl | exact ov_a); (exact rfl)) | refine zy ?_ | refine zon fun _ => ?_ | refine zoa fun vr lr hr => ?_ | ((first | apply ao_call | apply aq_call); exact wants_a; (first | exact oc_func rfl | exact oc_clos rfl rfl | exact oc_bnd rfl rfl); (exact rfl); (first | exact fun w hw => hnw w hw.below)) | (apply ao_callD; exact wants_a; (exact oc_func rfl); (exact rfl); (first | exact fun w hw => hcm w hw.below); intro vr lr hr) | ((apply ao_store; exact wants_a; (exact ow_mput (enc := encKt) (k := keyO ⟨k1, s1, n1, over1, c1, tm1, bs1, rs1⟩) rfl rfl rfl (mapAt_has has_a) hfn); exact upd_a)) | refine zoS (fun _ => ?_) (fun _ => ?_) | refine zqS (fun _ => ?_) (fun _ => ?_) | refine zwS (fun _ => ?_) (fun _ => ?_))
      revert vr lr hr
      intro v1 l1 hdd
      obtain ⟨a1, q1, a2, q2, rfl, hkd⟩ := del_open hdd
      have hps2 : ∀ d : PD, deD d = comesD st ⟨k1, s1, n1, over1, c1, tm1, bs1, rs1⟩ → (ps ++ [d]).map deD = (((obs qs).take (i + 1)).filter (newsB st)).map (comesD st) := fun d hd => by
        rw [htk, List.filter_append, List.map_append, List.map_append, ← hps]
        simp only [List.filter_cons, hnb, if_true, List.filter_nil, List.map_cons, List.map_nil, hd]
      repeat' (first | refine aw_seq ?_ | refine zz ?_ | refine zon fun _ => ?_ | refine zoa fun vr lr hr => ?_ | refine zoS (fun _ => ?_) (fun _ => ?_) | refine zqS (fun _ => ?_) (fun _ => ?_) | refine zwS (fun _ => ?_) (fun _ => ?_))
      exact lq_normal' ⟨gb, bm, i + 1, _, _, l1 ++ ls, ps ++ [_], _, _, rfl, by omega, by rw [List.length_append, List.length_singleton]; omega, hps2 _ rfl, hL2, row_d hr, hpa.snoc hkd, rfl, rfl⟩ (by omega) (by repeat (first | exact sub_nil | refine sub_cons rfl ?_)) (by rw [List.append_assoc]; repeat (first | exact List.Sublist.refl _ | apply hs_app | apply hs_keep | apply hs_skip | apply hs_app0))
  · obtain rfl : i = qs.length := by omega
    have htk : (obs qs).take qs.length = obs qs := by rw [← obs_len qs, List.take_length]
    rw [htk] at hps hL
    repeat' (first | refine aw_seq ?_ | ((first | apply ao_val | apply aq_val); exact wants_a; (first | exact ov_nilcheck rfl | exact ov_a); (exact rfl)) | refine zy ?_ | refine zon fun _ => ?_ | refine zoa fun vr lr hr => ?_ | (apply ao_new; exact wants_a; exact on_mrangeO rfl hmap; exact rfl; intro bi) | refine zoS (fun _ => ?_) (fun _ => ?_) | refine zqS (fun _ => ?_) (fun _ => ?_) | refine zwS (fun _ => ?_) (fun _ => ?_))
    refine aw_for (t0 := [(0, .pointer (some ⟨g, 0, none⟩)), (3, .pointer (some ⟨gb, 0, none⟩)), (5, v5), (6, .map (some bm)), (36, .pointer (some ⟨_, 0, none⟩))]) (fun q t H => ∃ (bi : Nat) (seen : Array Nat) (done : List (PO × Nat)) (v5 : Value) (l5 ls : Hp) (ps2 : List PD), q = (X.filter fun y => !seen.contains y.2).length ∧ Out X done seen ∧
      ps2.length ≤ qs.length + done.length ∧ ps2.map deD = ps.map deD ++ ((done.map fun x => x.1.2).filter (goneB (obs qs) ver)).map goesD ∧ RowB 82 21 v5 l5 ps2.length (ps2.flatMap cellsD) ∧ Parts KD ls ps2 ∧
      t = [(0, .pointer (some ⟨g, 0, none⟩)), (3, .pointer (some ⟨gb, 0, none⟩)), (5, v5), (6, .map (some bm)), (36, .pointer (some ⟨bi, 0, none⟩))] ∧
      H.Perm ((bi, .mapIter mo co seen co) :: (l5 ++ (ls ++ [(bm, mapO encKt L cl), (gb, .cells #[I 2, S k, S s, S n, I over, S c, .bool tm, .bool bs, .slice xa rs.length xc, I ver, .slice a qs.length cp] 73 (0, 0))])))) ⟨_, _, [], v5, l5, ls, ps, rfl, Out.nil, by simpa using hpl, by simp, r5, hpa, rfl, List.Perm.refl _⟩ (by repeat (first | exact sub_nil | refine sub_cons rfl ?_)) ?_
    clear r5 hpa
    rintro q t H ⟨bi, seen, done, v5, l5, ls, ps2, rfl, hout, hpl2, hps2, r5, hpa, rfl, hperm⟩
    refine aw_permH hperm ?_
    clear hperm
    have hdl : done.length ≤ 1000 := by
      have := nodup_len hout.nd hout.sub
      omega
    repeat' (first | refine aw_seq ?_ | refine zz ?_ | refine zon fun _ => ?_ | refine zoa fun vr lr hr => ?_ | (apply ao_mnextO; exact wants_a; exact rfl; exact cut_a; exact hmap; exact hold; exact Nat.le_refl _; exact rfl; intro hall; rotate_left; intro y hy hns; rotate_left) | refine zoS (fun _ => ?_) (fun _ => ?_) | refine zqS (fun _ => ?_) (fun _ => ?_) | refine zwS (fun _ => ?_) (fun _ => ?_))
    · have hpm := hout.all h.lx.bo fun x hx => hall (enO x) (List.mem_map.2 ⟨x, hx, rfl⟩)
      have hos : (done.map fun x => x.1.2).Perm st.os := (hpm.map fun x => x.1.2).trans h.lx.os
      have hwd : ∀ d ∈ ps2, Srg.wfK d.key ∧ (cellsD d).all Value.oneCell' = true := fun d hd => by
        obtain ⟨l, R, -, hkd⟩ := hpa.at hd
        refine ⟨?_, pd_flat hkd⟩
        have hm : deD d ∈ ps2.map deD := List.mem_map.2 ⟨d, hd, rfl⟩
        rw [hps2, hps, List.mem_append, List.mem_map, List.mem_map] at hm
        have hk : ∀ o : Ob, wfS o → keyO o = d.key → Srg.wfK d.key := fun o ho e => by rw [← e]; exact ⟨ho.1, ho.2.1, ho.2.2.1⟩
        rcases hm with ⟨o, h1, h2⟩ | ⟨o, h1, h2⟩
        · obtain ⟨p, hp1, rfl⟩ := List.mem_map.1 (List.mem_filter.1 h1).1
          exact hk p.2 (hq.2 p hp1) (congrArg De.key h2)
        · exact hk o (hwf o (hos.mem_iff.1 (List.mem_filter.1 h1).1)) (congrArg De.key h2)
      repeat' (first | refine aw_seq ?_ | refine zz ?_ | refine zon fun _ => ?_ | refine zoa fun vr lr hr => ?_ | ((apply ao_callH (l := l5); exact wants_a; (exact oc_func rfl); (exact rfl); (exact cut_a); (exact Srg.sortDels_ok _ hwd r5 (by omega) _); rintro _ _ ⟨rfl, l6, ds, rfl, hp2, hs2, r6⟩)) | refine zoS (fun _ => ?_) (fun _ => ?_) | refine zqS (fun _ => ?_) (fun _ => ?_) | refine zwS (fun _ => ?_) (fun _ => ?_))
      have hfin := rel_is (ver := ver) (D := ds.map deD) hf hr hos (by rw [← hps, ← hps2]; exact hp2.map deD) (by rw [List.pairwise_map]; exact hs2)
      exact fun w' hw => ⟨_, rfl, hw.toD rfl (l := l6 ++ ls) (Cut.app (by solve | (repeat (first | exact Cut.here | exact Cut.here1 | exact Cut.nil | apply Cut.skip | apply Cut.skipA))) (by solve | (repeat (first | exact Cut.here | exact Cut.here1 | exact Cut.nil | apply Cut.skip | apply Cut.skipA)))) ⟨ds, l6, ls, hfin, rfl, r6, parts_perm hp2.symm hpa⟩⟩
    · obtain ⟨⟨⟨xv, k1, s1, n1, over1, c1, tm1, bs1, rs1⟩, b⟩, hx, rfl⟩ := List.mem_map.1 hy
      have hra := h.res _ hx
      obtain ⟨ya, yc, e⟩ := hra.len
      simp only at e
      subst e
      have hwo : wfS ⟨k1, s1, n1, over1, c1, tm1, bs1, rs1⟩ := hwf _ (h.lx.mem.2 ⟨_, hx, rfl⟩)
      have hgo := fun w' (hb : Below w.heap.size w w') => goes_ok (.slice ya rs1.length yc, ⟨k1, s1, n1, over1, c1, tm1, bs1, rs1⟩) hwo w' (hra.below hb)
      have hdn : ((done ++ [(((.slice ya rs1.length yc : Value), (⟨k1, s1, n1, over1, c1, tm1, bs1, rs1⟩ : Ob)), b)]).map fun x => x.1.2).filter (goneB (obs qs) ver) = ((done.map fun x => x.1.2).filter (goneB (obs qs) ver)) ++ (if goneB (obs qs) ver ⟨k1, s1, n1, over1, c1, tm1, bs1, rs1⟩ = true then [⟨k1, s1, n1, over1, c1, tm1, bs1, rs1⟩] else []) := by
        rw [List.map_append, List.filter_append]
        refine congrArg _ ?_
        simp only [List.map_cons, List.map_nil, List.filter_cons, List.filter_nil]
      have hno : goneB (obs qs) ver ⟨k1, s1, n1, over1, c1, tm1, bs1, rs1⟩ = false → ps2.map deD = ps.map deD ++ (((done ++ [(((.slice ya rs1.length yc : Value), (⟨k1, s1, n1, over1, c1, tm1, bs1, rs1⟩ : Ob)), b)]).map fun x => x.1.2).filter (goneB (obs qs) ver)).map goesD := fun e => by
        rw [hdn, e, if_neg (by decide), List.append_nil]
        exact hps2
      have hln : ps2.length ≤ qs.length + (done ++ [(((.slice ya rs1.length yc : Value), (⟨k1, s1, n1, over1, c1, tm1, bs1, rs1⟩ : Ob)), b)]).length := by rw [List.length_append]; omega
      by_cases hvl : over1 ≤ ver
      · cases hh : hasO (obs qs) (k1, s1, n1)
        · have hg1 : goneB (obs qs) ver ⟨k1, s1, n1, over1, c1, tm1, bs1, rs1⟩ = true := by
            unfold goneB
            rw [decide_eq_true hvl]
            show (true && !hasO (obs qs) (k1, s1, n1)) = true
            rw [hh]; rfl
          have hlk := fun {E : Env} {t : Tm} {H : Hp} {x y : Operand} {ty : TypeId} {bm : Nat} h1 h2 h3 => hL.look (E := E) (t := t) (H := H) (x := x) (y := y) (ty := ty) (b := bm) (k1, s1, n1) h1 h2 h3
          rw [hh] at hlk
          repeat' (first | refine aw_seq ?_ | ((first | apply ao_val | apply aq_val); exact wants_a; (first | exact ov_entryO rfl has_a hmap hnod (List.mem_map.2 ⟨_, hx, rfl⟩) | exact hlk rfl rfl (mapAt_has has_a) | exact ov_a); (exact rfl)) | refine zy ?_ | refine zon fun _ => ?_ | refine zoa fun vr lr hr => ?_ | (apply ao_callD; exact wants_a; (exact oc_func rfl); (exact rfl); (first | exact fun w hw => hgo w hw.below); intro vr lr hr) | refine zoS (fun _ => ?_) (fun _ => ?_) | refine zqS (fun _ => ?_) (fun _ => ?_) | refine zwS (fun _ => ?_) (fun _ => ?_))
          revert vr lr hr
          intro v1 l1 hdd
          obtain ⟨a1, q1, a2, q2, rfl, hkd⟩ := del_open hdd
          have hyes : ∀ d : PD, deD d = goesD ⟨k1, s1, n1, over1, c1, tm1, bs1, rs1⟩ → (ps2 ++ [d]).map deD = ps.map deD ++ (((done ++ [(((.slice ya rs1.length yc : Value), (⟨k1, s1, n1, over1, c1, tm1, bs1, rs1⟩ : Ob)), b)]).map fun x => x.1.2).filter (goneB (obs qs) ver)).map goesD := fun d hd => by
            rw [hdn, if_pos hg1, List.map_append, List.map_append, hps2, List.append_assoc]
            simp only [List.map_cons, List.map_nil, hd]
          repeat' (first | refine aw_seq ?_ | refine zz ?_ | refine zon fun _ => ?_ | refine zoa fun vr lr hr => ?_ | refine zoS (fun _ => ?_) (fun _ => ?_) | refine zqS (fun _ => ?_) (fun _ => ?_) | refine zwS (fun _ => ?_) (fun _ => ?_))
          exact lq_normal' ⟨bi, _, _, _, _, l1 ++ ls, ps2 ++ [_], rfl, hout.snoc hx hns, by rw [List.length_append, List.length_append] at *; simp only [List.length_singleton] at *; omega, hyes _ rfl, row_d hr, hpa.snoc hkd, rfl, perm_bi _ _ _ _ _⟩ (left_less (fun y : PO × Nat => y.2) hx hns) (by repeat (first | exact sub_nil | refine sub_cons rfl ?_)) hsub_a
        · have hg1 : goneB (obs qs) ver ⟨k1, s1, n1, over1, c1, tm1, bs1, rs1⟩ = false := by
            unfold goneB
            show (decide (over1 ≤ ver) && !hasO (obs qs) (k1, s1, n1)) = false
            rw [hh]; simp
          have hlk := fun {E : Env} {t : Tm} {H : Hp} {x y : Operand} {ty : TypeId} {bm : Nat} h1 h2 h3 => hL.look (E := E) (t := t) (H := H) (x := x) (y := y) (ty := ty) (b := bm) (k1, s1, n1) h1 h2 h3
          rw [hh] at hlk
          repeat' (first | refine aw_seq ?_ | ((first | apply ao_val | apply aq_val); exact wants_a; (first | exact ov_entryO rfl has_a hmap hnod (List.mem_map.2 ⟨_, hx, rfl⟩) | exact hlk rfl rfl (mapAt_has has_a) | exact ov_a); (exact rfl)) | refine zy ?_ | refine zon fun _ => ?_ | refine zoa fun vr lr hr => ?_ | (apply ao_callD; exact wants_a; (exact oc_func rfl); (exact rfl); (first | exact fun w hw => hgo w hw.below); intro vr lr hr) | refine zoS (fun _ => ?_) (fun _ => ?_) | refine zqS (fun _ => ?_) (fun _ => ?_) | refine zwS (fun _ => ?_) (fun _ => ?_))
          exact lq_normal' ⟨bi, _, _, _, _, ls, ps2, rfl, hout.snoc hx hns, hln, hno hg1, r5, hpa, rfl, List.Perm.refl _⟩ (left_less (fun y : PO × Nat => y.2) hx hns) (by repeat (first | exact sub_nil | refine sub_cons rfl ?_)) hsub_a
      · have hg1 : goneB (obs qs) ver ⟨k1, s1, n1, over1, c1, tm1, bs1, rs1⟩ = false := by
          unfold goneB
          rw [decide_eq_false hvl]; rfl
        repeat' (first | refine aw_seq ?_ | ((first | apply ao_val | apply aq_val); exact wants_a; (first | exact ov_entryO rfl has_a hmap hnod (List.mem_map.2 ⟨_, hx, rfl⟩) | exact ov_a); (exact rfl)) | refine zy ?_ | refine zon fun _ => ?_ | refine zoa fun vr lr hr => ?_ | (apply ao_callD; exact wants_a; (exact oc_func rfl); (exact rfl); (first | exact fun w hw => hgo w hw.below); intro vr lr hr) | refine zoS (fun _ => ?_) (fun _ => ?_) | refine zqS (fun _ => ?_) (fun _ => ?_) | refine zwS (fun _ => ?_) (fun _ => ?_))
        exact lq_normal' ⟨bi, _, _, _, _, ls, ps2, rfl, hout.snoc hx hns, hln, hno hg1, r5, hpa, rfl, List.Perm.refl _⟩ (left_less (fun y : PO × Nat => y.2) hx hns) (by repeat (first | exact sub_nil | refine sub_cons rfl ?_)) hsub_a
end
end Chm
end Go.Proofs.YtdakeicfhbggeaaGreat
/- Cdi: The landed code's deltas of an event; conditions: names of at most 1,000 bytes, at most 1,000 objects. -/
namespace Go.Proofs.YtdakeicfhbggeaaGreat
namespace Chm
open Go Go.RowKit Sx Lab Vec Ojt Evt
attribute [local irreducible] Go.Calls
theorem dels_none (r : Value) (h : r = .slice none 0 0) : DDels [] r [] := ⟨[], [], [], rfl, rfl, by rw [h]; exact RowB.nil, Parts.nil⟩
theorem dels_one {d : PD} {l : Hp} {b : Nat} {T : TypeId} (hT : T = 82) (h : KD d l) : DDels [deD d] (.slice (some ⟨b, 0, none⟩) 1 1) ([(b, .cells (cellsD d).toArray T (0, 0))] ++ l) := by
  subst hT
  refine ⟨[d], [(b, .cells (cellsD d).toArray 82 (0, 0))], l, rfl, rfl, ?_, ?_⟩
  · have := RowB.lit (e := 82) (sz := 21) (n := 1) (g := b) (cs := cellsD d) rfl
    simpa using this
  · have := Parts.snoc (p := d) (Parts.nil (K := KD)) h
    simpa using this
section
variable {w : World} {g : Nat} {st : St} {mo mg : Option Nat} {X : List (PO × Nat)} {co : Nat} {G : List (Gr × Nat)} {cg : Nat}
set_option maxHeartbeats 64000000 in
theorem deltas_ok (h : CAt w g st mo mg X co G cg) (hf : Fine st) (hwf : ∀ o ∈ st.os, wfS o) (hl : st.os.length ≤ 1000) (kind : Int) (p : PO) (ver : Int) (v : Value) (qs : List PO) (hp : wfS p.2) (hq : wfL qs) (hq3 : qs.length ≤ 1000) (ho : ResAt w p.1 p.2.rs) (hv : ObjsAt w v qs)
    (hr : rightE kind p.2 ver (obs qs) = true) (hlow : lowO st kind p.2 < (versE kind p.2 ver (obs qs)).1) :
    Calls Tryz.prog 50 #[.pointer (some ⟨g, 0, none⟩), EV kind p ver v] w fun e w' => ∃ r, e = .returned r ∧ NewD (DDels (dlO st.os (nxO st kind p.2 ver (obs qs)).os)) w w' r := by
  have c0 := h.c0
  have lt := h.lt
  have hcm := fun w' (hb : Below w.heap.size w w') => comes_ok (h.below hb) hf hwf p hp (ho.below hb)
  have hrl := fun w' (hb : Below w.heap.size w w') hr2 => relisted_ok (h.below hb) hf hwf hl p ver v qs hp hq hq3 (ho.below hb) (hv.below hb) hr2
  obtain ⟨v2, hv2, hlo⟩ := h.look_o hf.os.own (keyO p.2)
  obtain ⟨va, vc, hvl⟩ := hv2.len
  subst hvl
  rw [vers_is hr] at hlow
  obtain ⟨x, k, s, n, over, c, tm, bs, rs⟩ := p
  obtain ⟨xa, xc, hx⟩ := ho.len
  simp only at hx
  subst hx
  obtain ⟨a, cp, hvl⟩ := hv.1.len
  subst hvl
  refine calls1 (args := [.pointer (some ⟨g, 0, none⟩), EV kind (.slice xa rs.length xc, ⟨k, s, n, over, c, tm, bs, rs⟩) ver (.slice a qs.length cp)]) Tryz.func50 rfl rfl rfl rfl ?_
  rcases right_kind hr with rfl | rfl | rfl | rfl
  · have hdl : dlO st.os (nxO st 0 ⟨k, s, n, over, c, tm, bs, rs⟩ ver (obs qs)).os = [comesD st ⟨k, s, n, over, c, tm, bs, rs⟩] := dl_put hf hr (by
      rw [if_pos (.inl rfl), lowO, if_pos (.inl rfl)] at hlow
      exact hlow)
    simp only at hdl ⊢
    rw [hdl]
    repeat' (first | refine aw_seq ?_ | refine zz ?_ | refine zon fun _ => ?_ | refine zoa fun vr lr hr => ?_ | (apply ao_callD; exact wants_a; (exact oc_func rfl); (exact rfl); (first | exact fun w hw => hcm w hw.below); intro vr lr hr) | refine zoS (fun _ => ?_) (fun _ => ?_) | refine zqS (fun _ => ?_) (fun _ => ?_) | refine zwS (fun _ => ?_) (fun _ => ?_))
    revert vr lr hr
    intro v1 l1 hdd
    obtain ⟨a1, q1, a2, q2, rfl, hkd⟩ := del_open hdd
    repeat' (first | refine aw_seq ?_ | refine zz ?_ | refine zon fun _ => ?_ | refine zoa fun vr lr hr => ?_ | refine zoS (fun _ => ?_) (fun _ => ?_) | refine zqS (fun _ => ?_) (fun _ => ?_) | refine zwS (fun _ => ?_) (fun _ => ?_))
    exact fun w' hw => ⟨_, rfl, hw.toD rfl (l := [(_, _)] ++ l1) (Cut.app (by solve | (repeat (first | exact Cut.here | exact Cut.here1 | exact Cut.nil | apply Cut.skip | apply Cut.skipA))) (by solve | (repeat (first | exact Cut.here | exact Cut.here1 | exact Cut.nil | apply Cut.skip | apply Cut.skipA)))) (dels_one rfl hkd)⟩
  · have hdl := dl_del hf (k, s, n)
    have hnx : (nxO st 1 ⟨k, s, n, over, c, tm, bs, rs⟩ ver (obs qs)).os = woO st.os (k, s, n) := rfl
    simp only at hnx ⊢
    rw [hnx, hdl]
    cases hg : getO st.os (k, s, n) with
    | none =>
      rw [hg] at hlo
      unfold getB at hlo
      simp only at hlo ⊢
      repeat' (first | (apply ao_nilh; exact hsub_a) | apply ao_nil | apply aq_nil | apply ah_end | ((first | apply ao_val | apply aq_val | (apply ah_take; (exact rfl))); exact wants_a; (first | exact ov_nilcheck rfl | exact hlo true rfl rfl | exact ov_a); (exact rfl)) | ((first | apply ao_skip | apply aq_skip | (apply ah_skip; (exact rfl))); exact nots_a; (exact rfl)) | (refine ao_is ?_; first | (apply ao_new; exact wants_a; exact on_a; (exact rfl); intro _) | (apply ao_store; exact wants_a; exact ow_a; exact upd_a) | (apply ao_valw; exact wants_a; exact ox_a; (exact rfl); exact upd_a) | (apply ao_skip0; exact nots_a) | (apply ao_append; exact wants_a; (exact rfl); assumption; (exact rfl); exact cut_a; exact has_a; (exact rfl); (exact rfl); omega; omega; omega; (exact rfl); intro vr lr hr)) | (apply ah_one; (exact rfl)) | (apply ah_two; (exact rfl); (exact rfl)) | (apply ah_three; (exact rfl); (exact rfl); (exact rfl)) | (refine aw_is ?_; first | (apply aw_held (id := 5) (pl := (.t 0 (.t 1 (.t 2 (.t 3 (.t 4 (.t 5 (.t 6 (.t 7 (.t 8 (.t 9 (.t 10 (.o 11 (.o 12 (.t 13 .e))))))))))))))); (kernel_rfl); (kernel_rfl); (kernel_rfl); (solve | (exact List.Sublist.refl _))) | refine aw_seq ?_ | refine aw_block ?_ | refine aw_region ?_ | refine aw_skip ?_ | refine aw_exit ?_ | refine aw_ret ?_ | refine aw_label ?_ | refine aw_scope ?_ | refine aw_cond_t rfl (by with_reducible rfl) ?_ | refine aw_cond_f rfl (by with_reducible rfl) ?_ | refine aw_draw (by kernel_rfl) (by kernel_rfl) ?_) | (first | (refine ah_is ?_; (fail_if_success first | refine ah_glit (b := true) rfl rfl rfl (by with_reducible rfl) ?_ | refine ah_glit (b := false) rfl rfl rfl (by with_reducible rfl) ?_); apply ah_gt; (exact rfl); (exact rfl); (exact rfl); exact t_a) | ((refine ao_is ?_; (fail_if_success first | refine ao_glit (b := true) rfl rfl (by with_reducible rfl) ?_ | refine ao_glit (b := false) rfl rfl (by with_reducible rfl) ?_)); apply ao_gt; (exact rfl); (exact rfl); exact t_a) | ((refine aq_is ?_; (fail_if_success first | refine aq_glit (b := true) rfl rfl (by with_reducible rfl) ?_ | refine aq_glit (b := false) rfl rfl (by with_reducible rfl) ?_)); apply aq_gt; (exact rfl); (exact rfl); exact t_a) | (apply aw_ct; (exact rfl); exact t_a)) | (first | (refine ah_is ?_; (fail_if_success first | refine ah_glit (b := true) rfl rfl rfl (by with_reducible rfl) ?_ | refine ah_glit (b := false) rfl rfl rfl (by with_reducible rfl) ?_); apply ah_gf; (exact rfl); (exact rfl); (exact rfl); exact f_a) | ((refine ao_is ?_; (fail_if_success first | refine ao_glit (b := true) rfl rfl (by with_reducible rfl) ?_ | refine ao_glit (b := false) rfl rfl (by with_reducible rfl) ?_)); apply ao_gf; (exact rfl); (exact rfl); exact f_a) | ((refine aq_is ?_; (fail_if_success first | refine aq_glit (b := true) rfl rfl (by with_reducible rfl) ?_ | refine aq_glit (b := false) rfl rfl (by with_reducible rfl) ?_)); apply aq_gf; (exact rfl); (exact rfl); exact f_a) | (apply aw_cf; (exact rfl); exact f_a)) | refine at_normal ?_ | refine at_exit ?_ | refine at_ret ?_ | refine ib_normal ?_ | refine ib_exit ?_ | refine ib_other ?_ | refine ib_ret ?_ | refine lq_exit ?_ | refine lq_ret ?_ | refine ci_ret ?_ | refine ci_exit ?_ | refine r1_ret rfl ?_ | refine r1_normal rfl ?_ | refine r2_ret rfl rfl ?_ | refine r2_normal rfl rfl ?_ | refine r3_ret rfl rfl rfl ?_ | refine r3_normal rfl rfl rfl ?_ | refine ng_normal ?_ | refine ng_exit ?_ | refine ng_ret ?_ | (apply rt_ret; (exact rfl); (exact rfl); (exact rfl); exact has_a; exact has_a; (exact rfl); (exact rfl)) | (apply rc1_ret; (exact rfl); exact has_a; (exact rfl)) | (apply rc2_ret; (exact rfl); exact has_a; (exact rfl); (exact rfl)) | (refine ao_is ?_; (fail_if_success first | refine ao_glit (b := true) rfl rfl (by with_reducible rfl) ?_ | refine ao_glit (b := false) rfl rfl (by with_reducible rfl) ?_); refine ao_gbool rfl rfl (fun _ => ?_) (fun _ => ?_)) | (refine aq_is ?_; (fail_if_success first | refine aq_glit (b := true) rfl rfl (by with_reducible rfl) ?_ | refine aq_glit (b := false) rfl rfl (by with_reducible rfl) ?_); refine aq_gbool rfl rfl (fun _ => ?_) (fun _ => ?_)) | (refine aw_is ?_; refine aw_cond rfl (fun _ => ?_) (fun _ => ?_)))
      exact fun w' hw => ⟨_, rfl, hw.toD rfl (l := []) (by solve | (repeat (first | exact Cut.here | exact Cut.here1 | exact Cut.nil | apply Cut.skip | apply Cut.skipA))) (dels_none _ rfl)⟩
    | some old =>
      rw [hg] at hlo hv2
      have hwo := hwf old (getO_some hg).1
      unfold getB at hlo hv2
      simp only at hlo hv2 ⊢
      have hgo := fun w' (hb : Below w.heap.size w w') => goes_ok (.slice va old.rs.length vc, old) hwo w' (hv2.below hb)
      obtain ⟨k1, s1, n1, ver2, c2, tm2, bs2, rs2⟩ := old
      simp only at hlo hv2 hgo ⊢
      repeat' (first | (apply ao_nilh; exact hsub_a) | apply ao_nil | apply aq_nil | apply ah_end | ((first | apply ao_val | apply aq_val | (apply ah_take; (exact rfl))); exact wants_a; (first | exact ov_nilcheck rfl | exact hlo true rfl rfl | exact ov_a); (exact rfl)) | ((first | apply ao_skip | apply aq_skip | (apply ah_skip; (exact rfl))); exact nots_a; (exact rfl)) | (refine ao_is ?_; first | (apply ao_new; exact wants_a; exact on_a; (exact rfl); intro _) | (apply ao_store; exact wants_a; exact ow_a; exact upd_a) | (apply ao_valw; exact wants_a; exact ox_a; (exact rfl); exact upd_a) | (apply ao_skip0; exact nots_a) | (apply ao_append; exact wants_a; (exact rfl); assumption; (exact rfl); exact cut_a; exact has_a; (exact rfl); (exact rfl); omega; omega; omega; (exact rfl); intro vr lr hr)) | (apply ao_callD; exact wants_a; (exact oc_func rfl); (exact rfl); (first | exact fun w hw => hgo w hw.below); intro vr lr hr) | (apply ah_one; (exact rfl)) | (apply ah_two; (exact rfl); (exact rfl)) | (apply ah_three; (exact rfl); (exact rfl); (exact rfl)) | (refine aw_is ?_; first | (apply aw_held (id := 5) (pl := (.t 0 (.t 1 (.t 2 (.t 3 (.t 4 (.t 5 (.t 6 (.t 7 (.t 8 (.t 9 (.t 10 (.o 11 (.o 12 (.t 13 .e))))))))))))))); (kernel_rfl); (kernel_rfl); (kernel_rfl); (solve | (exact List.Sublist.refl _))) | refine aw_seq ?_ | refine aw_block ?_ | refine aw_region ?_ | refine aw_skip ?_ | refine aw_exit ?_ | refine aw_ret ?_ | refine aw_label ?_ | refine aw_scope ?_ | refine aw_cond_t rfl (by with_reducible rfl) ?_ | refine aw_cond_f rfl (by with_reducible rfl) ?_ | refine aw_draw (by kernel_rfl) (by kernel_rfl) ?_) | (first | (refine ah_is ?_; (fail_if_success first | refine ah_glit (b := true) rfl rfl rfl (by with_reducible rfl) ?_ | refine ah_glit (b := false) rfl rfl rfl (by with_reducible rfl) ?_); apply ah_gt; (exact rfl); (exact rfl); (exact rfl); exact t_a) | ((refine ao_is ?_; (fail_if_success first | refine ao_glit (b := true) rfl rfl (by with_reducible rfl) ?_ | refine ao_glit (b := false) rfl rfl (by with_reducible rfl) ?_)); apply ao_gt; (exact rfl); (exact rfl); exact t_a) | ((refine aq_is ?_; (fail_if_success first | refine aq_glit (b := true) rfl rfl (by with_reducible rfl) ?_ | refine aq_glit (b := false) rfl rfl (by with_reducible rfl) ?_)); apply aq_gt; (exact rfl); (exact rfl); exact t_a) | (apply aw_ct; (exact rfl); exact t_a)) | (first | (refine ah_is ?_; (fail_if_success first | refine ah_glit (b := true) rfl rfl rfl (by with_reducible rfl) ?_ | refine ah_glit (b := false) rfl rfl rfl (by with_reducible rfl) ?_); apply ah_gf; (exact rfl); (exact rfl); (exact rfl); exact f_a) | ((refine ao_is ?_; (fail_if_success first | refine ao_glit (b := true) rfl rfl (by with_reducible rfl) ?_ | refine ao_glit (b := false) rfl rfl (by with_reducible rfl) ?_)); apply ao_gf; (exact rfl); (exact rfl); exact f_a) | ((refine aq_is ?_; (fail_if_success first | refine aq_glit (b := true) rfl rfl (by with_reducible rfl) ?_ | refine aq_glit (b := false) rfl rfl (by with_reducible rfl) ?_)); apply aq_gf; (exact rfl); (exact rfl); exact f_a) | (apply aw_cf; (exact rfl); exact f_a)) | refine at_normal ?_ | refine at_exit ?_ | refine at_ret ?_ | refine ib_normal ?_ | refine ib_exit ?_ | refine ib_other ?_ | refine ib_ret ?_ | refine lq_exit ?_ | refine lq_ret ?_ | refine ci_ret ?_ | refine ci_exit ?_ | refine r1_ret rfl ?_ | refine r1_normal rfl ?_ | refine r2_ret rfl rfl ?_ | refine r2_normal rfl rfl ?_ | refine r3_ret rfl rfl rfl ?_ | refine r3_normal rfl rfl rfl ?_ | refine ng_normal ?_ | refine ng_exit ?_ | refine ng_ret ?_ | (apply rt_ret; (exact rfl); (exact rfl); (exact rfl); exact has_a; exact has_a; (exact rfl); (exact rfl)) | (apply rc1_ret; (exact rfl); exact has_a; (exact rfl)) | (apply rc2_ret; (exact rfl); exact has_a; (exact rfl); (exact rfl)) | (refine ao_is ?_; (fail_if_success first | refine ao_glit (b := true) rfl rfl (by with_reducible rfl) ?_ | refine ao_glit (b := false) rfl rfl (by with_reducible rfl) ?_); refine ao_gbool rfl rfl (fun _ => ?_) (fun _ => ?_)) | (refine aq_is ?_; (fail_if_success first | refine aq_glit (b := true) rfl rfl (by with_reducible rfl) ?_ | refine aq_glit (b := false) rfl rfl (by with_reducible rfl) ?_); refine aq_gbool rfl rfl (fun _ => ?_) (fun _ => ?_)) | (refine aw_is ?_; refine aw_cond rfl (fun _ => ?_) (fun _ => ?_)))
      revert vr lr hr
      intro v1 l1 hdd
      obtain ⟨a1, q1, a2, q2, rfl, hkd⟩ := del_open hdd
      repeat' (first | refine aw_seq ?_ | refine zz ?_ | refine zon fun _ => ?_ | refine zoa fun vr lr hr => ?_ | refine zoS (fun _ => ?_) (fun _ => ?_) | refine zqS (fun _ => ?_) (fun _ => ?_) | refine zwS (fun _ => ?_) (fun _ => ?_))
      exact fun w' hw => ⟨_, rfl, hw.toD rfl (l := [(_, _)] ++ l1) (Cut.app (by solve | (repeat (first | exact Cut.here | exact Cut.here1 | exact Cut.nil | apply Cut.skip | apply Cut.skipA))) (by solve | (repeat (first | exact Cut.here | exact Cut.here1 | exact Cut.nil | apply Cut.skip | apply Cut.skipA)))) (dels_one rfl hkd)⟩
  · have hnx : (nxO st 2 ⟨k, s, n, over, c, tm, bs, rs⟩ ver (obs qs)).os = rlO st (obs qs) ver := rfl
    have hrr := (right_rel hr).1
    simp only at hnx ⊢
    rw [hnx]
    repeat' (first | refine aw_seq ?_ | refine zz ?_ | refine zon fun _ => ?_ | refine zoa fun vr lr hr => ?_ | (apply ao_callD; exact wants_a; (exact oc_func rfl); (exact rfl); (first | exact fun w hw => hrl w hw.below hrr); intro vr lr hr) | refine zoS (fun _ => ?_) (fun _ => ?_) | refine zqS (fun _ => ?_) (fun _ => ?_) | refine zwS (fun _ => ?_) (fun _ => ?_))
    revert vr lr hr
    intro v1 l1 hdd
    repeat' (first | refine aw_seq ?_ | refine zz ?_ | refine zon fun _ => ?_ | refine zoa fun vr lr hr => ?_ | refine zoS (fun _ => ?_) (fun _ => ?_) | refine zqS (fun _ => ?_) (fun _ => ?_) | refine zwS (fun _ => ?_) (fun _ => ?_))
    exact fun w' hw => ⟨_, rfl, hw.toD rfl (l := l1) (by solve | (repeat (first | exact Cut.here | exact Cut.here1 | exact Cut.nil | apply Cut.skip | apply Cut.skipA))) hdd⟩
  · have hnx : (nxO st 3 ⟨k, s, n, over, c, tm, bs, rs⟩ ver (obs qs)).os = st.os := rfl
    have hdl : dlO st.os st.os = [] := by
      refine List.eq_nil_iff_forall_not_mem.2 fun d hd => ?_
      obtain ⟨j, h1, -⟩ := (dlO_mem _ _ hf.os hf.os d).1 hd
      exact h1 rfl
    simp only at hnx ⊢
    rw [hnx, hdl]
    repeat' (first | refine aw_seq ?_ | refine zz ?_ | refine zon fun _ => ?_ | refine zoa fun vr lr hr => ?_ | refine zoS (fun _ => ?_) (fun _ => ?_) | refine zqS (fun _ => ?_) (fun _ => ?_) | refine zwS (fun _ => ?_) (fun _ => ?_))
    exact fun w' hw => ⟨_, rfl, hw.toD rfl (l := []) (by solve | (repeat (first | exact Cut.here | exact Cut.here1 | exact Cut.nil | apply Cut.skip | apply Cut.skipA))) (dels_none _ rfl)⟩
end
end Chm
end Go.Proofs.YtdakeicfhbggeaaGreat
