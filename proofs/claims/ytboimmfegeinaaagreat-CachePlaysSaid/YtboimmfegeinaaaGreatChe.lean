/- What the document's answer for layer 8 does with lists: sameness of deltas, keys of graves; conditions: names of at most 1,000 bytes, at most 100,000 entries. -/
import Derived.Test.YtboimmfegeinaaaGreatChd
namespace Go.Proofs.YtboimmfegeinaaaGreat
namespace Chm
open Go Go.RowKit Sx Lab Vec Ojt Evt
attribute [local irreducible] Go.Calls

/-- Deltas that came in. -/
def DelAt (w : World) (v : Value) (ds : List PD) : Prop := OldRow w 21 v ds.length (ds.flatMap cellsD) ∧ ∀ d ∈ ds, ResAt w d.old.1 d.old.2.rs ∧ ResAt w d.new.1 d.new.2.rs
theorem DelAt.below {w w' : World} {v : Value} {ds : List PD} (h : DelAt w v ds) (hb : Below w.heap.size w w') : DelAt w' v ds := ⟨OldRow.below h.1 hb, fun d hd => ⟨(h.2 d hd).1.below hb, (h.2 d hd).2.below hb⟩⟩
def wfD (ds : List PD) : Prop := ds.length ≤ 100000 ∧ ∀ d ∈ ds, wfS d.old.2 ∧ wfS d.new.2
theorem del_parts {w : World} {g b : Nat} {key : Kt} {had has : Bool} {x y : Value} {o n : Ob} (hc : ∀ (j : Nat) z, (cellsD ⟨key, had, has, (x, o), (y, n)⟩)[j]? = some z → w.cell? ⟨g, b + j, none⟩ = some z) :
    (∀ (j : Nat) z, [S key.1, S key.2.1, S key.2.2][j]? = some z → w.cell? ⟨g, b + 0 + j, none⟩ = some z) ∧ w.cell? ⟨g, b + 3, none⟩ = some (.bool had) ∧ w.cell? ⟨g, b + 4, none⟩ = some (.bool has) ∧
    (∀ (j : Nat) z, [S o.k, S o.s, S o.n, I o.ver, S o.c, .bool o.tm, .bool o.bs, x][j]? = some z → w.cell? ⟨g, b + 5 + j, none⟩ = some z) ∧ (∀ (j : Nat) z, [S n.k, S n.s, S n.n, I n.ver, S n.c, .bool n.tm, .bool n.bs, y][j]? = some z → w.cell? ⟨g, b + 13 + j, none⟩ = some z) := by
  refine ⟨fun j z hj => hc j z ?_, hc 3 _ rfl, hc 4 _ rfl, fun j z hj => ?_, fun j z hj => ?_⟩
  · rcases j with _ | _ | _ | j <;> first | exact hj | simp at hj
  · rw [Nat.add_assoc]
    refine hc (5 + j) z ?_
    rcases j with _ | _ | _ | _ | _ | _ | _ | _ | j <;> first | exact hj | simp at hj
  · rw [Nat.add_assoc]
    refine hc (13 + j) z ?_
    rcases j with _ | _ | _ | _ | _ | _ | _ | _ | j <;> first | exact hj | simp at hj

set_option maxHeartbeats 32000000 in
theorem rsameD_ok (v u : Value) (ds es : List PD) (hw1 : wfD ds) (hw2 : wfD es) (w : World) (hv : DelAt w v ds) (hu : DelAt w u es) :
    Calls Tryz.prog 9 #[v, u] w fun e w' => e = .returned (.bool (decide (ds.map deD = es.map deD))) ∧ Below w.heap.size w w' := by
  have hln := hw1.1
  have hln2 := hw2.1
  obtain ⟨a, c, rfl, hat⟩ := OldRow.cells cellsD_len hv.1
  obtain ⟨a2, c2, rfl, hat2⟩ := OldRow.cells cellsD_len hu.1
  refine calls1 (args := [.slice a ds.length c, .slice a2 es.length c2]) Tryz.func9 rfl rfl rfl rfl ?_
  by_cases hlen : ds.length = es.length
  · rw [← hlen]
    have hle : ((ds.length : Int) != (ds.length : Int)) = false := bne_self_eq_false _
    repeat' (first | refine aw_seq ?_ | refine zz ?_ | refine zon fun _ => ?_ | refine zoa fun vr lr hr => ?_ | refine zoS (fun _ => ?_) (fun _ => ?_) | refine zqS (fun _ => ?_) (fun _ => ?_) | refine zwS (fun _ => ?_) (fun _ => ?_))
    refine aw_for (t0 := [(0, .slice a ds.length c), (1, .slice a2 ds.length c2), (5, I (0 : Nat))]) (fun q t H => ∃ (i : Nat), q = ds.length - i ∧ i ≤ ds.length ∧ (ds.map deD).take i = (es.map deD).take i ∧ t = [(0, .slice a ds.length c), (1, .slice a2 ds.length c2), (5, I i)] ∧ H = []) ⟨0, rfl, by omega, rfl, rfl, rfl⟩ (by repeat (first | exact sub_nil | refine sub_cons rfl ?_)) ?_
    rintro q t H ⟨i, rfl, hi, htake, rfl, rfl⟩
    by_cases hlt : i < ds.length
    · obtain ⟨⟨key, had, has, ⟨x, o⟩, ⟨y, n⟩⟩, he⟩ := getP hlt
      obtain ⟨⟨key2, had2, has2, ⟨x2, p⟩, ⟨y2, m⟩⟩, hf⟩ := getP (show i < es.length by omega)
      have m1 := List.mem_of_getElem? he
      have m2 := List.mem_of_getElem? hf
      obtain ⟨g, o1, rfl, hg, hc⟩ := hat i _ (i : Int) he rfl
      obtain ⟨g2, o2, rfl, hg2, hc2⟩ := hat2 i _ (i : Int) hf rfl
      obtain ⟨cK, c3, c4, cO, cN⟩ := del_parts hc
      obtain ⟨dK, d3, d4, dO, dN⟩ := del_parts hc2
      have t1 : (ds.map deD)[i]? = some ⟨key, had, has, o, n⟩ := by rw [List.getElem?_map, he]; rfl
      have t2 : (es.map deD)[i]? = some ⟨key2, had2, has2, p, m⟩ := by rw [List.getElem?_map, hf]; rfl
      have hs1 := fun w' (hb : Below w.heap.size w w') => Ojt.rsame_ok o p x x2 (hw1.2 _ m1).1.wfO (hw2.2 _ m2).1.wfO w' ((hv.2 _ m1).1.below hb) ((hu.2 _ m2).1.below hb)
      have hs2 := fun w' (hb : Below w.heap.size w w') => Ojt.rsame_ok n m y y2 (hw1.2 _ m1).2.wfO (hw2.2 _ m2).2.wfO w' ((hv.2 _ m1).2.below hb) ((hu.2 _ m2).2.below hb)
      rw [same_eq] at hs1 hs2
      have hno : (⟨key, had, has, o, n⟩ : De) ≠ ⟨key2, had2, has2, p, m⟩ → decide (ds.map deD = es.map deD) = false := fun hne => decide_eq_false fun h => by rw [h, t2] at t1; exact hne (Option.some.inj t1).symm
      have hke := key_eq key key2
      by_cases e1 : o = p
      · rw [decide_eq_true e1] at hs1
        by_cases e2 : n = m
        · rw [decide_eq_true e2] at hs2
          by_cases e3 : key = key2
          · rw [decide_eq_true e3] at hke
            have hkn : (!(eqAll [S key.1, S key.2.1, S key.2.2] [S key2.1, S key2.2.1, S key2.2.2])) = false := by rw [hke]; rfl
            by_cases e4 : had = had2
            · subst e4
              have hbh : (had != had) = false := bne_self_eq_false had
              by_cases e5 : has = has2
              · subst e5
                repeat' (first | refine aw_seq ?_ | ((first | apply ao_val | apply aq_val); exact wants_a; (first | exact ov_load_oa rfl hg cO rfl | exact ov_load_oa rfl hg cN rfl | exact ov_load_oa rfl hg cK rfl | exact ov_load_oa rfl hg2 dO rfl | exact ov_load_oa rfl hg2 dN rfl | exact ov_load_oa rfl hg2 dK rfl | exact ov_a); (exact rfl)) | refine zy ?_ | refine zon fun _ => ?_ | refine zoa fun vr lr hr => ?_ | ((first | apply ao_call | apply aq_call); exact wants_a; (first | exact oc_func rfl | exact oc_clos rfl rfl); (exact rfl); (first | exact fun w hw => hs1 w hw.below | exact fun w hw => hs2 w hw.below)) | refine zoS (fun _ => ?_) (fun _ => ?_) | refine zqS (fun _ => ?_) (fun _ => ?_) | refine zwS (fun _ => ?_) (fun _ => ?_))
                exact lq_normal' ⟨i + 1, rfl, by omega, by rw [List.take_add_one, List.take_add_one, htake, t1, t2, e1, e2, e3], rfl, rfl⟩ (by omega) (by repeat (first | exact sub_nil | refine sub_cons rfl ?_)) hsub_a
              · rw [hno fun h => by injection h with _ _ h; exact e5 h]
                have e6 : (has != has2) = true := by simpa using e5
                repeat' (first | refine aw_seq ?_ | ((first | apply ao_val | apply aq_val); exact wants_a; (first | exact ov_load_oa rfl hg cO rfl | exact ov_load_oa rfl hg cN rfl | exact ov_load_oa rfl hg cK rfl | exact ov_load_oa rfl hg2 dO rfl | exact ov_load_oa rfl hg2 dN rfl | exact ov_load_oa rfl hg2 dK rfl | exact ov_a); (exact rfl)) | refine zy ?_ | refine zon fun _ => ?_ | refine zoa fun vr lr hr => ?_ | ((first | apply ao_call | apply aq_call); exact wants_a; (first | exact oc_func rfl | exact oc_clos rfl rfl); (exact rfl); (first | exact fun w hw => hs1 w hw.below | exact fun w hw => hs2 w hw.below)) | refine zoS (fun _ => ?_) (fun _ => ?_) | refine zqS (fun _ => ?_) (fun _ => ?_) | refine zwS (fun _ => ?_) (fun _ => ?_))
                exact fun w' hw => ⟨rfl, hw.below⟩
            · rw [hno fun h => by injection h with _ h _; exact e4 h]
              have e6 : (had != had2) = true := by simpa using e4
              repeat' (first | refine aw_seq ?_ | ((first | apply ao_val | apply aq_val); exact wants_a; (first | exact ov_load_oa rfl hg cO rfl | exact ov_load_oa rfl hg cN rfl | exact ov_load_oa rfl hg cK rfl | exact ov_load_oa rfl hg2 dO rfl | exact ov_load_oa rfl hg2 dN rfl | exact ov_load_oa rfl hg2 dK rfl | exact ov_a); (exact rfl)) | refine zy ?_ | refine zon fun _ => ?_ | refine zoa fun vr lr hr => ?_ | ((first | apply ao_call | apply aq_call); exact wants_a; (first | exact oc_func rfl | exact oc_clos rfl rfl); (exact rfl); (first | exact fun w hw => hs1 w hw.below | exact fun w hw => hs2 w hw.below)) | refine zoS (fun _ => ?_) (fun _ => ?_) | refine zqS (fun _ => ?_) (fun _ => ?_) | refine zwS (fun _ => ?_) (fun _ => ?_))
              exact fun w' hw => ⟨rfl, hw.below⟩
          · rw [hno fun h => by injection h with h; exact e3 h]
            rw [decide_eq_false e3] at hke
            have hkn : (!(eqAll [S key.1, S key.2.1, S key.2.2] [S key2.1, S key2.2.1, S key2.2.2])) = true := by rw [hke]; rfl
            repeat' (first | refine aw_seq ?_ | ((first | apply ao_val | apply aq_val); exact wants_a; (first | exact ov_load_oa rfl hg cO rfl | exact ov_load_oa rfl hg cN rfl | exact ov_load_oa rfl hg cK rfl | exact ov_load_oa rfl hg2 dO rfl | exact ov_load_oa rfl hg2 dN rfl | exact ov_load_oa rfl hg2 dK rfl | exact ov_a); (exact rfl)) | refine zy ?_ | refine zon fun _ => ?_ | refine zoa fun vr lr hr => ?_ | ((first | apply ao_call | apply aq_call); exact wants_a; (first | exact oc_func rfl | exact oc_clos rfl rfl); (exact rfl); (first | exact fun w hw => hs1 w hw.below | exact fun w hw => hs2 w hw.below)) | refine zoS (fun _ => ?_) (fun _ => ?_) | refine zqS (fun _ => ?_) (fun _ => ?_) | refine zwS (fun _ => ?_) (fun _ => ?_))
            exact fun w' hw => ⟨rfl, hw.below⟩
        · rw [decide_eq_false e2] at hs2
          rw [hno fun h => by injection h with _ _ _ _ h; exact e2 h]
          repeat' (first | refine aw_seq ?_ | ((first | apply ao_val | apply aq_val); exact wants_a; (first | exact ov_load_oa rfl hg cO rfl | exact ov_load_oa rfl hg cN rfl | exact ov_load_oa rfl hg cK rfl | exact ov_load_oa rfl hg2 dO rfl | exact ov_load_oa rfl hg2 dN rfl | exact ov_load_oa rfl hg2 dK rfl | exact ov_a); (exact rfl)) | refine zy ?_ | refine zon fun _ => ?_ | refine zoa fun vr lr hr => ?_ | ((first | apply ao_call | apply aq_call); exact wants_a; (first | exact oc_func rfl | exact oc_clos rfl rfl); (exact rfl); (first | exact fun w hw => hs1 w hw.below | exact fun w hw => hs2 w hw.below)) | refine zoS (fun _ => ?_) (fun _ => ?_) | refine zqS (fun _ => ?_) (fun _ => ?_) | refine zwS (fun _ => ?_) (fun _ => ?_))
          exact fun w' hw => ⟨rfl, hw.below⟩
      · rw [decide_eq_false e1] at hs1
        rw [hno fun h => by injection h with _ _ _ h; exact e1 h]
        generalize hq : decide (n = m) = b2 at hs2
        cases b2
        all_goals
          repeat' (first | refine aw_seq ?_ | ((first | apply ao_val | apply aq_val); exact wants_a; (first | exact ov_load_oa rfl hg cO rfl | exact ov_load_oa rfl hg cN rfl | exact ov_load_oa rfl hg cK rfl | exact ov_load_oa rfl hg2 dO rfl | exact ov_load_oa rfl hg2 dN rfl | exact ov_load_oa rfl hg2 dK rfl | exact ov_a); (exact rfl)) | refine zy ?_ | refine zon fun _ => ?_ | refine zoa fun vr lr hr => ?_ | ((first | apply ao_call | apply aq_call); exact wants_a; (first | exact oc_func rfl | exact oc_clos rfl rfl); (exact rfl); (first | exact fun w hw => hs1 w hw.below | exact fun w hw => hs2 w hw.below)) | refine zoS (fun _ => ?_) (fun _ => ?_) | refine zqS (fun _ => ?_) (fun _ => ?_) | refine zwS (fun _ => ?_) (fun _ => ?_))
          exact fun w' hw => ⟨rfl, hw.below⟩
    · obtain rfl : i = ds.length := by omega
      have l1 : (ds.map deD).length = ds.length := List.length_map _
      have l2 : (es.map deD).length = es.length := List.length_map _
      rw [decide_eq_true (by rw [← l1, List.take_length, l1, hlen, ← l2, List.take_length] at htake; exact htake)]
      repeat' (first | refine aw_seq ?_ | refine zz ?_ | refine zon fun _ => ?_ | refine zoa fun vr lr hr => ?_ | refine zoS (fun _ => ?_) (fun _ => ?_) | refine zqS (fun _ => ?_) (fun _ => ?_) | refine zwS (fun _ => ?_) (fun _ => ?_))
      exact fun w' hw => ⟨rfl, hw.below⟩
  · have hle : ((ds.length : Int) != (es.length : Int)) = true := bne_iff_ne.2 (by omega)
    rw [decide_eq_false fun h => hlen (by have := congrArg List.length h; rwa [List.length_map, List.length_map] at this)]
    repeat' (first | refine aw_seq ?_ | refine zz ?_ | refine zon fun _ => ?_ | refine zoa fun vr lr hr => ?_ | refine zoS (fun _ => ?_) (fun _ => ?_) | refine zqS (fun _ => ?_) (fun _ => ?_) | refine zwS (fun _ => ?_) (fun _ => ?_))
    exact fun w' hw => ⟨rfl, hw.below⟩

def cellsK (k : Kt) : List Value := [S k.1, S k.2.1, S k.2.2]
theorem cellsK_len (k : Kt) : (cellsK k).length = 3 := rfl
set_option maxHeartbeats 16000000 in
theorem rkeys_ok (v u : Value) (ks : List Kt) (gs : List Gr) (hl1 : ks.length ≤ 100000) (w : World) (hv : OldRow w 3 v ks.length (ks.flatMap cellsK)) (hu : GrAt w u gs) :
    Calls Tryz.prog 12 #[v, u] w fun e w' => e = .returned (.bool (decide (ks = gs.map (·.1)))) ∧ Below w.heap.size w w' := by
  obtain ⟨a, c, rfl, hat⟩ := OldRow.cells cellsK_len hv
  obtain ⟨a2, c2, rfl, hat2⟩ := OldRow.cells cellsG_len hu
  refine calls1 (args := [.slice a ks.length c, .slice a2 gs.length c2]) Tryz.func12 rfl rfl rfl rfl ?_
  by_cases hlen : ks.length = gs.length
  · rw [← hlen]
    have hle : ((ks.length : Int) != (ks.length : Int)) = false := bne_self_eq_false _
    repeat' (first | refine aw_seq ?_ | refine zz ?_ | refine zon fun _ => ?_ | refine zoa fun vr lr hr => ?_ | refine zoS (fun _ => ?_) (fun _ => ?_) | refine zqS (fun _ => ?_) (fun _ => ?_) | refine zwS (fun _ => ?_) (fun _ => ?_))
    refine aw_for (t0 := [(0, .slice a ks.length c), (1, .slice a2 ks.length c2), (5, I (0 : Nat))]) (fun q t H => ∃ (i : Nat), q = ks.length - i ∧ i ≤ ks.length ∧ ks.take i = (gs.map (·.1)).take i ∧ t = [(0, .slice a ks.length c), (1, .slice a2 ks.length c2), (5, I i)] ∧ H = []) ⟨0, rfl, by omega, rfl, rfl, rfl⟩ (by repeat (first | exact sub_nil | refine sub_cons rfl ?_)) ?_
    rintro q t H ⟨i, rfl, hi, htake, rfl, rfl⟩
    by_cases hlt : i < ks.length
    · obtain ⟨k, he⟩ := getP hlt
      obtain ⟨⟨k2, n⟩, hf⟩ := getP (show i < gs.length by omega)
      obtain ⟨g, o1, rfl, hg, hc⟩ := hat i _ (i : Int) he rfl
      obtain ⟨g2, o2, rfl, hg2, hc2⟩ := hat2 i _ (i : Int) hf rfl
      have cK : ∀ (j : Nat) z, [S k.1, S k.2.1, S k.2.2][j]? = some z → w.cell? ⟨g, o1 + (i : Int).toNat * 3 + j, none⟩ = some z := hc
      have cL : ∀ (j : Nat) z, [S k2.1, S k2.2.1, S k2.2.2][j]? = some z → w.cell? ⟨g2, o2 + (i : Int).toNat * 4 + 0 + j, none⟩ = some z := fun j z hj => hc2 j z (by
        rcases j with _ | _ | _ | j
        · exact hj
        · exact hj
        · exact hj
        · simp at hj)
      have t2 : (gs.map (·.1))[i]? = some k2 := by rw [List.getElem?_map, hf]; rfl
      have hke := key_eq k k2
      by_cases e1 : k = k2
      · rw [decide_eq_true e1] at hke
        repeat' (first | refine aw_seq ?_ | ((first | apply ao_val | apply aq_val); exact wants_a; (first | exact ov_load_oa rfl hg cK rfl | exact ov_load_oa rfl hg2 cL rfl | exact ov_a); (exact rfl)) | refine zy ?_ | refine zon fun _ => ?_ | refine zoa fun vr lr hr => ?_ | refine zoS (fun _ => ?_) (fun _ => ?_) | refine zqS (fun _ => ?_) (fun _ => ?_) | refine zwS (fun _ => ?_) (fun _ => ?_))
        exact lq_normal' ⟨i + 1, rfl, by omega, by rw [List.take_add_one, List.take_add_one, htake, he, t2, e1], rfl, rfl⟩ (by omega) (by repeat (first | exact sub_nil | refine sub_cons rfl ?_)) hsub_a
      · rw [decide_eq_false e1] at hke
        rw [decide_eq_false fun h => by rw [h, t2] at he; exact e1 (Option.some.inj he).symm]
        repeat' (first | refine aw_seq ?_ | ((first | apply ao_val | apply aq_val); exact wants_a; (first | exact ov_load_oa rfl hg cK rfl | exact ov_load_oa rfl hg2 cL rfl | exact ov_a); (exact rfl)) | refine zy ?_ | refine zon fun _ => ?_ | refine zoa fun vr lr hr => ?_ | refine zoS (fun _ => ?_) (fun _ => ?_) | refine zqS (fun _ => ?_) (fun _ => ?_) | refine zwS (fun _ => ?_) (fun _ => ?_))
        exact fun w' hw => ⟨rfl, hw.below⟩
    · obtain rfl : i = ks.length := by omega
      have l2 : (gs.map (·.1)).length = gs.length := List.length_map _
      rw [decide_eq_true (by rw [List.take_length, hlen, ← l2, List.take_length] at htake; exact htake)]
      repeat' (first | refine aw_seq ?_ | refine zz ?_ | refine zon fun _ => ?_ | refine zoa fun vr lr hr => ?_ | refine zoS (fun _ => ?_) (fun _ => ?_) | refine zqS (fun _ => ?_) (fun _ => ?_) | refine zwS (fun _ => ?_) (fun _ => ?_))
      exact fun w' hw => ⟨rfl, hw.below⟩
  · have hle : ((ks.length : Int) != (gs.length : Int)) = true := bne_iff_ne.2 (by omega)
    rw [decide_eq_false fun h => hlen (by have := congrArg List.length h; rwa [List.length_map] at this)]
    repeat' (first | refine aw_seq ?_ | refine zz ?_ | refine zon fun _ => ?_ | refine zoa fun vr lr hr => ?_ | refine zoS (fun _ => ?_) (fun _ => ?_) | refine zqS (fun _ => ?_) (fun _ => ?_) | refine zwS (fun _ => ?_) (fun _ => ?_))
    exact fun w' hw => ⟨rfl, hw.below⟩
end Chm
end Go.Proofs.YtboimmfegeinaaaGreat
