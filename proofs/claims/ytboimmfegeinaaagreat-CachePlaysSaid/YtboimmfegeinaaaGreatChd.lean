/- What the document's answer for layer 8 does with lists: deltas; conditions: names of at most 1,000 bytes, at most 1,000 objects. -/
import Derived.Test.YtboimmfegeinaaaGreatChw
import Derived.Test.YtboimmfegeinaaaGreatCsx
namespace Go.Proofs.YtboimmfegeinaaaGreat
namespace Chm
open Go Go.RowKit Sx Lab Vec Ojt Evt
attribute [local irreducible] Go.Calls

/-- A delta, and where its charges lie. -/
structure PD where
  key : Kt
  had : Bool
  has : Bool
  old : PO
  new : PO
def cellsD (d : PD) : List Value := [S d.key.1, S d.key.2.1, S d.key.2.2, .bool d.had, .bool d.has, S d.old.2.k, S d.old.2.s, S d.old.2.n, I d.old.2.ver, S d.old.2.c, .bool d.old.2.tm, .bool d.old.2.bs, d.old.1,
  S d.new.2.k, S d.new.2.s, S d.new.2.n, I d.new.2.ver, S d.new.2.c, .bool d.new.2.tm, .bool d.new.2.bs, d.new.1]
theorem cellsD_len (d : PD) : (cellsD d).length = 21 := rfl
def deD (d : PD) : De := ⟨d.key, d.had, d.has, d.old.2, d.new.2⟩
abbrev zP : PO := (.slice none 0 0, zO)
def goneP (x : PO) : PD := ⟨keyO x.2, true, false, x, zP⟩
def cameP (y : PO) : PD := ⟨keyO y.2, false, true, zP, y⟩
def turnP (x y : PO) : PD := ⟨keyO x.2, true, true, x, y⟩
def dlP : List PO → List PO → List PD
  | [], [] => []
  | x :: a, [] => goneP x :: dlP a []
  | [], y :: b => cameP y :: dlP [] b
  | x :: a, y :: b => if lessO x.2 y.2 = true then goneP x :: dlP a (y :: b) else if lessO y.2 x.2 = true then cameP y :: dlP (x :: a) b else if x.2 = y.2 then dlP a b else turnP x y :: dlP a b
  termination_by a b => a.length + b.length
theorem dlP_is : ∀ (a b : List PO), (dlP a b).map deD = dlO (obs a) (obs b)
  | [], [] => by rw [dlP]; show [] = dlO [] []; rw [dlO]
  | x :: a, [] => by rw [dlP, List.map_cons, dlP_is a []]; show _ = dlO (x.2 :: obs a) []; rw [dlO]; rfl
  | [], y :: b => by rw [dlP, List.map_cons, dlP_is [] b]; show _ = dlO [] (y.2 :: obs b); rw [dlO]; rfl
  | x :: a, y :: b => by
    rw [dlP]
    show _ = dlO (x.2 :: obs a) (y.2 :: obs b)
    rw [dlO]
    by_cases h1 : lessO x.2 y.2 = true
    · rw [if_pos h1, if_pos h1, List.map_cons, dlP_is a (y :: b)]; rfl
    · rw [if_neg h1, if_neg h1]
      by_cases h2 : lessO y.2 x.2 = true
      · rw [if_pos h2, if_pos h2, List.map_cons, dlP_is (x :: a) b]; rfl
      · rw [if_neg h2, if_neg h2]
        by_cases h3 : x.2 = y.2
        · rw [if_pos h3, if_pos h3, dlP_is a b]
        · rw [if_neg h3, if_neg h3, List.map_cons, dlP_is a b]; rfl
  termination_by a b => a.length + b.length
theorem dlP_len : ∀ (a b : List PO), (dlP a b).length ≤ a.length + b.length
  | [], [] => by rw [dlP]; exact Nat.le_refl _
  | x :: a, [] => by rw [dlP, List.length_cons, List.length_cons]; have := dlP_len a []; omega
  | [], y :: b => by rw [dlP, List.length_cons, List.length_cons]; have := dlP_len [] b; omega
  | x :: a, y :: b => by
    rw [dlP]
    have h1 := dlP_len a (y :: b)
    have h2 := dlP_len (x :: a) b
    have h3 := dlP_len a b
    simp only [List.length_cons] at h1 h2 ⊢
    repeat' split
    all_goals (try rw [List.length_cons]); omega
  termination_by a b => a.length + b.length
/-- Where a delta's charges come from. -/
theorem dlP_mem : ∀ (a b : List PO), ∀ d ∈ dlP a b, (d.old = zP ∨ d.old ∈ a) ∧ (d.new = zP ∨ d.new ∈ b)
  | [], [] => by rw [dlP]; intro d h; cases h
  | x :: a, [] => by
    rw [dlP]
    intro d h
    rcases List.mem_cons.1 h with rfl | h
    · exact ⟨.inr List.mem_cons_self, .inl rfl⟩
    · exact (dlP_mem a [] d h).imp (Or.imp id (List.mem_cons_of_mem x)) id
  | [], y :: b => by
    rw [dlP]
    intro d h
    rcases List.mem_cons.1 h with rfl | h
    · exact ⟨.inl rfl, .inr List.mem_cons_self⟩
    · exact (dlP_mem [] b d h).imp id (Or.imp id (List.mem_cons_of_mem y))
  | x :: a, y :: b => by
    rw [dlP]
    have h1 := dlP_mem a (y :: b)
    have h2 := dlP_mem (x :: a) b
    have h3 := dlP_mem a b
    have up : ∀ d : PD, ((d.old = zP ∨ d.old ∈ a) ∧ (d.new = zP ∨ d.new ∈ b)) → (d.old = zP ∨ d.old ∈ x :: a) ∧ (d.new = zP ∨ d.new ∈ y :: b) := fun d h => h.imp (Or.imp id (List.mem_cons_of_mem x)) (Or.imp id (List.mem_cons_of_mem y))
    intro d h
    repeat' split at h
    · rcases List.mem_cons.1 h with rfl | h
      · exact ⟨.inr List.mem_cons_self, .inl rfl⟩
      · exact (h1 d h).imp (Or.imp id (List.mem_cons_of_mem x)) id
    · rcases List.mem_cons.1 h with rfl | h
      · exact ⟨.inl rfl, .inr List.mem_cons_self⟩
      · exact (h2 d h).imp id (Or.imp id (List.mem_cons_of_mem y))
    · exact up d (h3 d h)
    · rcases List.mem_cons.1 h with rfl | h
      · exact ⟨.inr List.mem_cons_self, .inr List.mem_cons_self⟩
      · exact up d (h3 d h)
  termination_by a b => a.length + b.length
theorem drow_o {v : Value} {k : Hp} {os : List PD} {d : PD} {e : TypeId} (h : RowB e 21 v k (os.length + 1) (os.flatMap cellsD ++ cellsD d)) : RowB e 21 v k (os ++ [d]).length ((os ++ [d]).flatMap cellsD) := by
  rw [List.length_append, List.flatMap_append]
  simpa using h

set_option maxHeartbeats 32000000 in
theorem rdeltas_ok (v u : Value) (ps qs : List PO) (hw1 : wfL ps) (hw2 : wfL qs) (hl1 : ps.length ≤ 2000) (hl2 : qs.length ≤ 2000) (w : World) (hv : ObjsAt w v ps) (hu : ObjsAt w u qs) :
    Calls Tryz.prog 30 #[v, u] w fun e w' => ∃ r, e = .returned r ∧ NewRow 57 21 w w' r (dlP ps qs).length ((dlP ps qs).flatMap cellsD) := by
  obtain ⟨a, c, rfl, hat⟩ := OldRow.cells cellsO_len hv.1
  obtain ⟨a2, c2, rfl, hat2⟩ := OldRow.cells cellsO_len hu.1
  refine calls1 (args := [.slice a ps.length c, .slice a2 qs.length c2]) Tryz.func30 rfl rfl rfl rfl ?_
  repeat' (first | refine aw_seq ?_ | refine zz ?_ | refine zon fun _ => ?_ | refine zoa fun vr lr hr => ?_ | refine zoS (fun _ => ?_) (fun _ => ?_) | refine zqS (fun _ => ?_) (fun _ => ?_) | refine zwS (fun _ => ?_) (fun _ => ?_))
  refine aw_for (t0 := [(0, .slice a ps.length c), (1, .slice a2 qs.length c2), (5, .slice none 0 0), (6, I (0 : Nat)), (7, I (0 : Nat))]) (fun q t H => ∃ (i k : Nat) (v5 : Value) (l5 : Hp) (outs : List PD), q = (ps.length - i) + (qs.length - k) ∧ i ≤ ps.length ∧ k ≤ qs.length ∧ outs.length ≤ i + k ∧ outs ++ dlP (ps.drop i) (qs.drop k) = dlP ps qs ∧
      RowB 57 21 v5 l5 outs.length (outs.flatMap cellsD) ∧ t = [(0, .slice a ps.length c), (1, .slice a2 qs.length c2), (5, v5), (6, I i), (7, I k)] ∧ H = l5 ++ [])
    ⟨0, 0, _, [], [], rfl, by omega, by omega, Nat.le_refl _, rfl, RowB.nil, rfl, rfl⟩ (by repeat (first | exact sub_nil | refine sub_cons rfl ?_)) ?_
  rintro q t H ⟨i, k, v5, l5, outs, rfl, hi, hk, hol, hinv, r5, rfl, rfl⟩
  by_cases hlt : i < ps.length
  · obtain ⟨⟨x, o⟩, he⟩ := getP hlt
    have m1 := List.mem_of_getElem? he
    have hwx := hw1.2 _ m1
    obtain ⟨xa, xc, hx⟩ := (hv.2 _ m1).len
    simp only at hx
    subst hx
    obtain ⟨g, o1, rfl, hg, hc⟩ := hat i _ (i : Int) he rfl
    have cA : ∀ (j : Nat) z, [S o.k, S o.s, S o.n, I o.ver, S o.c, .bool o.tm, .bool o.bs, .slice xa o.rs.length xc][j]? = some z → w.cell? ⟨g, o1 + (i : Int).toNat * 8 + j, none⟩ = some z := hc
    have cK := key_load hc
    have hdi : ps.drop i = ((.slice xa o.rs.length xc : Value), o) :: ps.drop (i + 1) := by rw [List.drop_eq_getElem_cons hlt, (List.getElem?_eq_some_iff.1 he).2]
    by_cases hkl : k < qs.length
    · obtain ⟨⟨y, p⟩, hf⟩ := getP hkl
      have m2 := List.mem_of_getElem? hf
      have hwy := hw2.2 _ m2
      obtain ⟨ya, yc, hy⟩ := (hu.2 _ m2).len
      simp only at hy
      subst hy
      obtain ⟨g2, o2, rfl, hg2, hc2⟩ := hat2 k _ (k : Int) hf rfl
      have cB : ∀ (j : Nat) z, [S p.k, S p.s, S p.n, I p.ver, S p.c, .bool p.tm, .bool p.bs, .slice ya p.rs.length yc][j]? = some z → w.cell? ⟨g2, o2 + (k : Int).toNat * 8 + j, none⟩ = some z := hc2
      have cL := key_load hc2
      have hdk : qs.drop k = ((.slice ya p.rs.length yc : Value), p) :: qs.drop (k + 1) := by rw [List.drop_eq_getElem_cons hkl, (List.getElem?_eq_some_iff.1 hf).2]
      have l1 := fun w' => Lab.rless_ok o.k o.s o.n p.k p.s p.n hwx.1 hwx.2.1 hwx.2.2.1 hwy.1 hwy.2.1 hwy.2.2.1 w'
      have l2 := fun w' => Lab.rless_ok p.k p.s p.n o.k o.s o.n hwy.1 hwy.2.1 hwy.2.2.1 hwx.1 hwx.2.1 hwx.2.2.1 w'
      rw [hdi, hdk, dlP] at hinv
      simp only at hinv
      cases h1 : lessO o p
      · rw [show Op.bytesLess (joinB o.k o.s o.n) (joinB p.k p.s p.n) = _ from h1] at l1
        rw [if_neg (by rw [h1]; decide)] at hinv
        cases h2 : lessO p o
        · rw [show Op.bytesLess (joinB p.k p.s p.n) (joinB o.k o.s o.n) = _ from h2] at l2
          rw [if_neg (by rw [h2]; decide)] at hinv
          have hs := fun w' (hb : Below w.heap.size w w') => Ojt.rsame_ok o p _ _ hwx.wfO hwy.wfO w' ((hv.2 _ m1).below hb) ((hu.2 _ m2).below hb)
          rw [same_eq] at hs
          by_cases hop : o = p
          · rw [if_pos hop] at hinv
            rw [decide_eq_true hop] at hs
            repeat' (first | refine aw_seq ?_ | ((first | apply ao_val | apply aq_val); exact wants_a; (first | exact ov_load_oa rfl hg cA rfl | exact ov_load_oa rfl hg cK rfl | exact ov_load_oa rfl hg2 cB rfl | exact ov_load_oa rfl hg2 cL rfl | exact ov_a); (exact rfl)) | refine zy ?_ | refine zon fun _ => ?_ | refine zoa fun vr lr hr => ?_ | ((first | apply ao_call | apply aq_call); exact wants_a; (first | exact oc_func rfl | exact oc_clos rfl rfl); (exact rfl); (first | exact fun w hw => l1 w | exact fun w hw => l2 w | exact fun w hw => hs w hw.below)) | refine zoS (fun _ => ?_) (fun _ => ?_) | refine zqS (fun _ => ?_) (fun _ => ?_) | refine zwS (fun _ => ?_) (fun _ => ?_))
            exact lq_normal' ⟨i + 1, k + 1, _, _, outs, rfl, by omega, by omega, by omega, hinv, r5, rfl, rfl⟩ (by omega) (by repeat (first | exact sub_nil | refine sub_cons rfl ?_)) hsub_a
          · rw [if_neg hop] at hinv
            rw [decide_eq_false hop] at hs
            repeat' (first | (apply ao_nilh; exact hsub_a) | apply ao_nil | apply aq_nil | apply ah_end | ((first | apply ao_val | apply aq_val | (apply ah_take; (exact rfl))); exact wants_a; (first | exact ov_load_oa rfl hg cA rfl | exact ov_load_oa rfl hg cK rfl | exact ov_load_oa rfl hg2 cB rfl | exact ov_load_oa rfl hg2 cL rfl | exact ov_a); (exact rfl)) | ((first | apply ao_skip | apply aq_skip | (apply ah_skip; (exact rfl))); exact nots_a; (exact rfl)) | (refine ao_is ?_; first | (apply ao_new; exact wants_a; exact on_a; (exact rfl); intro _) | (apply ao_store; exact wants_a; exact ow_a; exact upd_a) | (apply ao_valw; exact wants_a; exact ox_a; (exact rfl); exact upd_a) | (apply ao_skip0; exact nots_a) | (apply ao_append; exact wants_a; (exact rfl); assumption; (exact rfl); exact cut_a; exact has_a; (exact rfl); (exact rfl); omega; omega; omega; (exact rfl); intro vr lr hr)) | ((first | apply ao_call | apply aq_call); exact wants_a; (first | exact oc_func rfl | exact oc_clos rfl rfl); (exact rfl); (first | exact fun w hw => l1 w | exact fun w hw => l2 w | exact fun w hw => hs w hw.below)) | (apply ah_one; (exact rfl)) | (apply ah_two; (exact rfl); (exact rfl)) | (apply ah_three; (exact rfl); (exact rfl); (exact rfl)) | (refine aw_is ?_; first | (apply aw_held (id := 13) (pl := (.t 0 (.t 1 (.t 2 (.t 3 (.t 4 (.t 5 (.t 6 (.t 7 (.t 8 (.t 9 (.t 10 (.t 11 (.t 12 (.t 13 (.t 14 (.o 15 (.o 16 (.t 17 .e))))))))))))))))))); (kernel_rfl); (kernel_rfl); (kernel_rfl); (solve | (apply hs_app0; exact List.Sublist.refl _))) | refine aw_seq ?_ | refine aw_block ?_ | refine aw_region ?_ | refine aw_skip ?_ | refine aw_exit ?_ | refine aw_ret ?_ | refine aw_label ?_ | refine aw_scope ?_ | refine aw_cond_t rfl (by with_reducible rfl) ?_ | refine aw_cond_f rfl (by with_reducible rfl) ?_ | refine aw_draw (by kernel_rfl) (by kernel_rfl) ?_) | (first | (refine ah_is ?_; (fail_if_success first | refine ah_glit (b := true) rfl rfl rfl (by with_reducible rfl) ?_ | refine ah_glit (b := false) rfl rfl rfl (by with_reducible rfl) ?_); apply ah_gt; (exact rfl); (exact rfl); (exact rfl); exact t_a) | ((refine ao_is ?_; (fail_if_success first | refine ao_glit (b := true) rfl rfl (by with_reducible rfl) ?_ | refine ao_glit (b := false) rfl rfl (by with_reducible rfl) ?_)); apply ao_gt; (exact rfl); (exact rfl); exact t_a) | ((refine aq_is ?_; (fail_if_success first | refine aq_glit (b := true) rfl rfl (by with_reducible rfl) ?_ | refine aq_glit (b := false) rfl rfl (by with_reducible rfl) ?_)); apply aq_gt; (exact rfl); (exact rfl); exact t_a) | (apply aw_ct; (exact rfl); exact t_a)) | (first | (refine ah_is ?_; (fail_if_success first | refine ah_glit (b := true) rfl rfl rfl (by with_reducible rfl) ?_ | refine ah_glit (b := false) rfl rfl rfl (by with_reducible rfl) ?_); apply ah_gf; (exact rfl); (exact rfl); (exact rfl); exact f_a) | ((refine ao_is ?_; (fail_if_success first | refine ao_glit (b := true) rfl rfl (by with_reducible rfl) ?_ | refine ao_glit (b := false) rfl rfl (by with_reducible rfl) ?_)); apply ao_gf; (exact rfl); (exact rfl); exact f_a) | ((refine aq_is ?_; (fail_if_success first | refine aq_glit (b := true) rfl rfl (by with_reducible rfl) ?_ | refine aq_glit (b := false) rfl rfl (by with_reducible rfl) ?_)); apply aq_gf; (exact rfl); (exact rfl); exact f_a) | (apply aw_cf; (exact rfl); exact f_a)) | refine at_normal ?_ | refine at_exit ?_ | refine at_ret ?_ | refine ib_normal ?_ | refine ib_exit ?_ | refine ib_other ?_ | refine ib_ret ?_ | refine lq_exit ?_ | refine lq_ret ?_ | refine ci_ret ?_ | refine ci_exit ?_ | refine r1_ret rfl ?_ | refine r1_normal rfl ?_ | refine r2_ret rfl rfl ?_ | refine r2_normal rfl rfl ?_ | refine r3_ret rfl rfl rfl ?_ | refine r3_normal rfl rfl rfl ?_ | refine ng_normal ?_ | refine ng_exit ?_ | refine ng_ret ?_ | (apply rt_ret; (exact rfl); (exact rfl); (exact rfl); exact has_a; exact has_a; (exact rfl); (exact rfl)) | (apply rc1_ret; (exact rfl); exact has_a; (exact rfl)) | (apply rc2_ret; (exact rfl); exact has_a; (exact rfl); (exact rfl)) | (refine ao_is ?_; (fail_if_success first | refine ao_glit (b := true) rfl rfl (by with_reducible rfl) ?_ | refine ao_glit (b := false) rfl rfl (by with_reducible rfl) ?_); refine ao_gbool rfl rfl (fun _ => ?_) (fun _ => ?_)) | (refine aq_is ?_; (fail_if_success first | refine aq_glit (b := true) rfl rfl (by with_reducible rfl) ?_ | refine aq_glit (b := false) rfl rfl (by with_reducible rfl) ?_); refine aq_gbool rfl rfl (fun _ => ?_) (fun _ => ?_)) | (refine aw_is ?_; refine aw_cond rfl (fun _ => ?_) (fun _ => ?_)))
            exact lq_normal' ⟨i + 1, k + 1, _, _, outs ++ [turnP (.slice xa o.rs.length xc, o) (.slice ya p.rs.length yc, p)], rfl, by omega, by omega, by rw [List.length_append, List.length_singleton]; omega, by rw [List.append_assoc]; exact hinv, drow_o hr, rfl, rfl⟩ (by omega) (by repeat (first | exact sub_nil | refine sub_cons rfl ?_)) hsub_a
        · rw [show Op.bytesLess (joinB p.k p.s p.n) (joinB o.k o.s o.n) = _ from h2] at l2
          rw [if_pos h2, ← hdi] at hinv
          repeat' (first | (apply ao_nilh; exact hsub_a) | apply ao_nil | apply aq_nil | apply ah_end | ((first | apply ao_val | apply aq_val | (apply ah_take; (exact rfl))); exact wants_a; (first | exact ov_load_oa rfl hg cA rfl | exact ov_load_oa rfl hg cK rfl | exact ov_load_oa rfl hg2 cB rfl | exact ov_load_oa rfl hg2 cL rfl | exact ov_a); (exact rfl)) | ((first | apply ao_skip | apply aq_skip | (apply ah_skip; (exact rfl))); exact nots_a; (exact rfl)) | (refine ao_is ?_; first | (apply ao_new; exact wants_a; exact on_a; (exact rfl); intro _) | (apply ao_store; exact wants_a; exact ow_a; exact upd_a) | (apply ao_valw; exact wants_a; exact ox_a; (exact rfl); exact upd_a) | (apply ao_skip0; exact nots_a) | (apply ao_append; exact wants_a; (exact rfl); assumption; (exact rfl); exact cut_a; exact has_a; (exact rfl); (exact rfl); omega; omega; omega; (exact rfl); intro vr lr hr)) | ((first | apply ao_call | apply aq_call); exact wants_a; (first | exact oc_func rfl | exact oc_clos rfl rfl); (exact rfl); (first | exact fun w hw => l1 w | exact fun w hw => l2 w)) | (apply ah_one; (exact rfl)) | (apply ah_two; (exact rfl); (exact rfl)) | (apply ah_three; (exact rfl); (exact rfl); (exact rfl)) | (refine aw_is ?_; first | (apply aw_held (id := 9) (pl := (.t 0 (.t 1 (.t 2 (.t 3 (.t 4 (.t 5 (.t 6 (.t 7 (.t 8 (.t 9 (.t 10 (.o 11 (.o 12 (.t 13 .e))))))))))))))); (kernel_rfl); (kernel_rfl); (kernel_rfl); (solve | (apply hs_app0; exact List.Sublist.refl _))) | refine aw_seq ?_ | refine aw_block ?_ | refine aw_region ?_ | refine aw_skip ?_ | refine aw_exit ?_ | refine aw_ret ?_ | refine aw_label ?_ | refine aw_scope ?_ | refine aw_cond_t rfl (by with_reducible rfl) ?_ | refine aw_cond_f rfl (by with_reducible rfl) ?_ | refine aw_draw (by kernel_rfl) (by kernel_rfl) ?_) | (first | (refine ah_is ?_; (fail_if_success first | refine ah_glit (b := true) rfl rfl rfl (by with_reducible rfl) ?_ | refine ah_glit (b := false) rfl rfl rfl (by with_reducible rfl) ?_); apply ah_gt; (exact rfl); (exact rfl); (exact rfl); exact t_a) | ((refine ao_is ?_; (fail_if_success first | refine ao_glit (b := true) rfl rfl (by with_reducible rfl) ?_ | refine ao_glit (b := false) rfl rfl (by with_reducible rfl) ?_)); apply ao_gt; (exact rfl); (exact rfl); exact t_a) | ((refine aq_is ?_; (fail_if_success first | refine aq_glit (b := true) rfl rfl (by with_reducible rfl) ?_ | refine aq_glit (b := false) rfl rfl (by with_reducible rfl) ?_)); apply aq_gt; (exact rfl); (exact rfl); exact t_a) | (apply aw_ct; (exact rfl); exact t_a)) | (first | (refine ah_is ?_; (fail_if_success first | refine ah_glit (b := true) rfl rfl rfl (by with_reducible rfl) ?_ | refine ah_glit (b := false) rfl rfl rfl (by with_reducible rfl) ?_); apply ah_gf; (exact rfl); (exact rfl); (exact rfl); exact f_a) | ((refine ao_is ?_; (fail_if_success first | refine ao_glit (b := true) rfl rfl (by with_reducible rfl) ?_ | refine ao_glit (b := false) rfl rfl (by with_reducible rfl) ?_)); apply ao_gf; (exact rfl); (exact rfl); exact f_a) | ((refine aq_is ?_; (fail_if_success first | refine aq_glit (b := true) rfl rfl (by with_reducible rfl) ?_ | refine aq_glit (b := false) rfl rfl (by with_reducible rfl) ?_)); apply aq_gf; (exact rfl); (exact rfl); exact f_a) | (apply aw_cf; (exact rfl); exact f_a)) | refine at_normal ?_ | refine at_exit ?_ | refine at_ret ?_ | refine ib_normal ?_ | refine ib_exit ?_ | refine ib_other ?_ | refine ib_ret ?_ | refine lq_exit ?_ | refine lq_ret ?_ | refine ci_ret ?_ | refine ci_exit ?_ | refine r1_ret rfl ?_ | refine r1_normal rfl ?_ | refine r2_ret rfl rfl ?_ | refine r2_normal rfl rfl ?_ | refine r3_ret rfl rfl rfl ?_ | refine r3_normal rfl rfl rfl ?_ | refine ng_normal ?_ | refine ng_exit ?_ | refine ng_ret ?_ | (apply rt_ret; (exact rfl); (exact rfl); (exact rfl); exact has_a; exact has_a; (exact rfl); (exact rfl)) | (apply rc1_ret; (exact rfl); exact has_a; (exact rfl)) | (apply rc2_ret; (exact rfl); exact has_a; (exact rfl); (exact rfl)) | (refine ao_is ?_; (fail_if_success first | refine ao_glit (b := true) rfl rfl (by with_reducible rfl) ?_ | refine ao_glit (b := false) rfl rfl (by with_reducible rfl) ?_); refine ao_gbool rfl rfl (fun _ => ?_) (fun _ => ?_)) | (refine aq_is ?_; (fail_if_success first | refine aq_glit (b := true) rfl rfl (by with_reducible rfl) ?_ | refine aq_glit (b := false) rfl rfl (by with_reducible rfl) ?_); refine aq_gbool rfl rfl (fun _ => ?_) (fun _ => ?_)) | (refine aw_is ?_; refine aw_cond rfl (fun _ => ?_) (fun _ => ?_)))
          exact lq_normal' ⟨i, k + 1, _, _, outs ++ [cameP (.slice ya p.rs.length yc, p)], rfl, by omega, by omega, by rw [List.length_append, List.length_singleton]; omega, by rw [List.append_assoc]; exact hinv, drow_o hr, rfl, rfl⟩ (by omega) (by repeat (first | exact sub_nil | refine sub_cons rfl ?_)) hsub_a
      · rw [show Op.bytesLess (joinB o.k o.s o.n) (joinB p.k p.s p.n) = _ from h1] at l1
        rw [if_pos h1, ← hdk] at hinv
        repeat' (first | (apply ao_nilh; exact hsub_a) | apply ao_nil | apply aq_nil | apply ah_end | ((first | apply ao_val | apply aq_val | (apply ah_take; (exact rfl))); exact wants_a; (first | exact ov_load_oa rfl hg cA rfl | exact ov_load_oa rfl hg cK rfl | exact ov_load_oa rfl hg2 cB rfl | exact ov_load_oa rfl hg2 cL rfl | exact ov_a); (exact rfl)) | ((first | apply ao_skip | apply aq_skip | (apply ah_skip; (exact rfl))); exact nots_a; (exact rfl)) | (refine ao_is ?_; first | (apply ao_new; exact wants_a; exact on_a; (exact rfl); intro _) | (apply ao_store; exact wants_a; exact ow_a; exact upd_a) | (apply ao_valw; exact wants_a; exact ox_a; (exact rfl); exact upd_a) | (apply ao_skip0; exact nots_a) | (apply ao_append; exact wants_a; (exact rfl); assumption; (exact rfl); exact cut_a; exact has_a; (exact rfl); (exact rfl); omega; omega; omega; (exact rfl); intro vr lr hr)) | ((first | apply ao_call | apply aq_call); exact wants_a; (first | exact oc_func rfl | exact oc_clos rfl rfl); (exact rfl); (first | exact fun w hw => l1 w)) | (apply ah_one; (exact rfl)) | (apply ah_two; (exact rfl); (exact rfl)) | (apply ah_three; (exact rfl); (exact rfl); (exact rfl)) | (refine aw_is ?_; first | (apply aw_held (id := 6) (pl := (.t 0 (.t 1 (.t 2 (.t 3 (.t 4 (.t 5 (.t 6 (.t 7 (.t 8 (.t 9 (.t 10 (.o 11 (.o 12 (.t 13 .e))))))))))))))); (kernel_rfl); (kernel_rfl); (kernel_rfl); (solve | (apply hs_app0; exact List.Sublist.refl _))) | refine aw_seq ?_ | refine aw_block ?_ | refine aw_region ?_ | refine aw_skip ?_ | refine aw_exit ?_ | refine aw_ret ?_ | refine aw_label ?_ | refine aw_scope ?_ | refine aw_cond_t rfl (by with_reducible rfl) ?_ | refine aw_cond_f rfl (by with_reducible rfl) ?_ | refine aw_draw (by kernel_rfl) (by kernel_rfl) ?_) | (first | (refine ah_is ?_; (fail_if_success first | refine ah_glit (b := true) rfl rfl rfl (by with_reducible rfl) ?_ | refine ah_glit (b := false) rfl rfl rfl (by with_reducible rfl) ?_); apply ah_gt; (exact rfl); (exact rfl); (exact rfl); exact t_a) | ((refine ao_is ?_; (fail_if_success first | refine ao_glit (b := true) rfl rfl (by with_reducible rfl) ?_ | refine ao_glit (b := false) rfl rfl (by with_reducible rfl) ?_)); apply ao_gt; (exact rfl); (exact rfl); exact t_a) | ((refine aq_is ?_; (fail_if_success first | refine aq_glit (b := true) rfl rfl (by with_reducible rfl) ?_ | refine aq_glit (b := false) rfl rfl (by with_reducible rfl) ?_)); apply aq_gt; (exact rfl); (exact rfl); exact t_a) | (apply aw_ct; (exact rfl); exact t_a)) | (first | (refine ah_is ?_; (fail_if_success first | refine ah_glit (b := true) rfl rfl rfl (by with_reducible rfl) ?_ | refine ah_glit (b := false) rfl rfl rfl (by with_reducible rfl) ?_); apply ah_gf; (exact rfl); (exact rfl); (exact rfl); exact f_a) | ((refine ao_is ?_; (fail_if_success first | refine ao_glit (b := true) rfl rfl (by with_reducible rfl) ?_ | refine ao_glit (b := false) rfl rfl (by with_reducible rfl) ?_)); apply ao_gf; (exact rfl); (exact rfl); exact f_a) | ((refine aq_is ?_; (fail_if_success first | refine aq_glit (b := true) rfl rfl (by with_reducible rfl) ?_ | refine aq_glit (b := false) rfl rfl (by with_reducible rfl) ?_)); apply aq_gf; (exact rfl); (exact rfl); exact f_a) | (apply aw_cf; (exact rfl); exact f_a)) | refine at_normal ?_ | refine at_exit ?_ | refine at_ret ?_ | refine ib_normal ?_ | refine ib_exit ?_ | refine ib_other ?_ | refine ib_ret ?_ | refine lq_exit ?_ | refine lq_ret ?_ | refine ci_ret ?_ | refine ci_exit ?_ | refine r1_ret rfl ?_ | refine r1_normal rfl ?_ | refine r2_ret rfl rfl ?_ | refine r2_normal rfl rfl ?_ | refine r3_ret rfl rfl rfl ?_ | refine r3_normal rfl rfl rfl ?_ | refine ng_normal ?_ | refine ng_exit ?_ | refine ng_ret ?_ | (apply rt_ret; (exact rfl); (exact rfl); (exact rfl); exact has_a; exact has_a; (exact rfl); (exact rfl)) | (apply rc1_ret; (exact rfl); exact has_a; (exact rfl)) | (apply rc2_ret; (exact rfl); exact has_a; (exact rfl); (exact rfl)) | (refine ao_is ?_; (fail_if_success first | refine ao_glit (b := true) rfl rfl (by with_reducible rfl) ?_ | refine ao_glit (b := false) rfl rfl (by with_reducible rfl) ?_); refine ao_gbool rfl rfl (fun _ => ?_) (fun _ => ?_)) | (refine aq_is ?_; (fail_if_success first | refine aq_glit (b := true) rfl rfl (by with_reducible rfl) ?_ | refine aq_glit (b := false) rfl rfl (by with_reducible rfl) ?_); refine aq_gbool rfl rfl (fun _ => ?_) (fun _ => ?_)) | (refine aw_is ?_; refine aw_cond rfl (fun _ => ?_) (fun _ => ?_)))
        exact lq_normal' ⟨i + 1, k, _, _, outs ++ [goneP (.slice xa o.rs.length xc, o)], rfl, by omega, by omega, by rw [List.length_append, List.length_singleton]; omega, by rw [List.append_assoc]; exact hinv, drow_o hr, rfl, rfl⟩ (by omega) (by repeat (first | exact sub_nil | refine sub_cons rfl ?_)) hsub_a
    · obtain rfl : k = qs.length := by omega
      rw [hdi, List.drop_length, dlP, ← List.drop_length (l := qs)] at hinv
      repeat' (first | (apply ao_nilh; exact hsub_a) | apply ao_nil | apply aq_nil | apply ah_end | ((first | apply ao_val | apply aq_val | (apply ah_take; (exact rfl))); exact wants_a; (first | exact ov_load_oa rfl hg cA rfl | exact ov_load_oa rfl hg cK rfl | exact ov_a); (exact rfl)) | ((first | apply ao_skip | apply aq_skip | (apply ah_skip; (exact rfl))); exact nots_a; (exact rfl)) | (refine ao_is ?_; first | (apply ao_new; exact wants_a; exact on_a; (exact rfl); intro _) | (apply ao_store; exact wants_a; exact ow_a; exact upd_a) | (apply ao_valw; exact wants_a; exact ox_a; (exact rfl); exact upd_a) | (apply ao_skip0; exact nots_a) | (apply ao_append; exact wants_a; (exact rfl); assumption; (exact rfl); exact cut_a; exact has_a; (exact rfl); (exact rfl); omega; omega; omega; (exact rfl); intro vr lr hr)) | (apply ah_one; (exact rfl)) | (apply ah_two; (exact rfl); (exact rfl)) | (apply ah_three; (exact rfl); (exact rfl); (exact rfl)) | (refine aw_is ?_; first | (apply aw_held (id := 6) (pl := (.t 0 (.t 1 (.t 2 (.t 3 (.t 4 (.t 5 (.t 6 (.t 7 (.t 8 (.t 9 (.t 10 (.o 11 (.o 12 (.t 13 .e))))))))))))))); (kernel_rfl); (kernel_rfl); (kernel_rfl); (solve | (apply hs_app0; exact List.Sublist.refl _))) | refine aw_seq ?_ | refine aw_block ?_ | refine aw_region ?_ | refine aw_skip ?_ | refine aw_exit ?_ | refine aw_ret ?_ | refine aw_label ?_ | refine aw_scope ?_ | refine aw_cond_t rfl (by with_reducible rfl) ?_ | refine aw_cond_f rfl (by with_reducible rfl) ?_ | refine aw_draw (by kernel_rfl) (by kernel_rfl) ?_) | (first | (refine ah_is ?_; (fail_if_success first | refine ah_glit (b := true) rfl rfl rfl (by with_reducible rfl) ?_ | refine ah_glit (b := false) rfl rfl rfl (by with_reducible rfl) ?_); apply ah_gt; (exact rfl); (exact rfl); (exact rfl); exact t_a) | ((refine ao_is ?_; (fail_if_success first | refine ao_glit (b := true) rfl rfl (by with_reducible rfl) ?_ | refine ao_glit (b := false) rfl rfl (by with_reducible rfl) ?_)); apply ao_gt; (exact rfl); (exact rfl); exact t_a) | ((refine aq_is ?_; (fail_if_success first | refine aq_glit (b := true) rfl rfl (by with_reducible rfl) ?_ | refine aq_glit (b := false) rfl rfl (by with_reducible rfl) ?_)); apply aq_gt; (exact rfl); (exact rfl); exact t_a) | (apply aw_ct; (exact rfl); exact t_a)) | (first | (refine ah_is ?_; (fail_if_success first | refine ah_glit (b := true) rfl rfl rfl (by with_reducible rfl) ?_ | refine ah_glit (b := false) rfl rfl rfl (by with_reducible rfl) ?_); apply ah_gf; (exact rfl); (exact rfl); (exact rfl); exact f_a) | ((refine ao_is ?_; (fail_if_success first | refine ao_glit (b := true) rfl rfl (by with_reducible rfl) ?_ | refine ao_glit (b := false) rfl rfl (by with_reducible rfl) ?_)); apply ao_gf; (exact rfl); (exact rfl); exact f_a) | ((refine aq_is ?_; (fail_if_success first | refine aq_glit (b := true) rfl rfl (by with_reducible rfl) ?_ | refine aq_glit (b := false) rfl rfl (by with_reducible rfl) ?_)); apply aq_gf; (exact rfl); (exact rfl); exact f_a) | (apply aw_cf; (exact rfl); exact f_a)) | refine at_normal ?_ | refine at_exit ?_ | refine at_ret ?_ | refine ib_normal ?_ | refine ib_exit ?_ | refine ib_other ?_ | refine ib_ret ?_ | refine lq_exit ?_ | refine lq_ret ?_ | refine ci_ret ?_ | refine ci_exit ?_ | refine r1_ret rfl ?_ | refine r1_normal rfl ?_ | refine r2_ret rfl rfl ?_ | refine r2_normal rfl rfl ?_ | refine r3_ret rfl rfl rfl ?_ | refine r3_normal rfl rfl rfl ?_ | refine ng_normal ?_ | refine ng_exit ?_ | refine ng_ret ?_ | (apply rt_ret; (exact rfl); (exact rfl); (exact rfl); exact has_a; exact has_a; (exact rfl); (exact rfl)) | (apply rc1_ret; (exact rfl); exact has_a; (exact rfl)) | (apply rc2_ret; (exact rfl); exact has_a; (exact rfl); (exact rfl)) | (refine ao_is ?_; (fail_if_success first | refine ao_glit (b := true) rfl rfl (by with_reducible rfl) ?_ | refine ao_glit (b := false) rfl rfl (by with_reducible rfl) ?_); refine ao_gbool rfl rfl (fun _ => ?_) (fun _ => ?_)) | (refine aq_is ?_; (fail_if_success first | refine aq_glit (b := true) rfl rfl (by with_reducible rfl) ?_ | refine aq_glit (b := false) rfl rfl (by with_reducible rfl) ?_); refine aq_gbool rfl rfl (fun _ => ?_) (fun _ => ?_)) | (refine aw_is ?_; refine aw_cond rfl (fun _ => ?_) (fun _ => ?_)))
      exact lq_normal' ⟨i + 1, qs.length, _, _, outs ++ [goneP (.slice xa o.rs.length xc, o)], rfl, by omega, by omega, by rw [List.length_append, List.length_singleton]; omega, by rw [List.append_assoc]; exact hinv, drow_o hr, rfl, rfl⟩ (by omega) (by repeat (first | exact sub_nil | refine sub_cons rfl ?_)) hsub_a
  · obtain rfl : i = ps.length := by omega
    by_cases hkl : k < qs.length
    · obtain ⟨⟨y, p⟩, hf⟩ := getP hkl
      have m2 := List.mem_of_getElem? hf
      have hwy := hw2.2 _ m2
      obtain ⟨ya, yc, hy⟩ := (hu.2 _ m2).len
      simp only at hy
      subst hy
      obtain ⟨g2, o2, rfl, hg2, hc2⟩ := hat2 k _ (k : Int) hf rfl
      have cB : ∀ (j : Nat) z, [S p.k, S p.s, S p.n, I p.ver, S p.c, .bool p.tm, .bool p.bs, .slice ya p.rs.length yc][j]? = some z → w.cell? ⟨g2, o2 + (k : Int).toNat * 8 + j, none⟩ = some z := hc2
      have cL := key_load hc2
      have hdk : qs.drop k = ((.slice ya p.rs.length yc : Value), p) :: qs.drop (k + 1) := by rw [List.drop_eq_getElem_cons hkl, (List.getElem?_eq_some_iff.1 hf).2]
      rw [hdk, List.drop_length, dlP, ← List.drop_length (l := ps)] at hinv
      repeat' (first | (apply ao_nilh; exact hsub_a) | apply ao_nil | apply aq_nil | apply ah_end | ((first | apply ao_val | apply aq_val | (apply ah_take; (exact rfl))); exact wants_a; (first | exact ov_load_oa rfl hg2 cB rfl | exact ov_load_oa rfl hg2 cL rfl | exact ov_a); (exact rfl)) | ((first | apply ao_skip | apply aq_skip | (apply ah_skip; (exact rfl))); exact nots_a; (exact rfl)) | (refine ao_is ?_; first | (apply ao_new; exact wants_a; exact on_a; (exact rfl); intro _) | (apply ao_store; exact wants_a; exact ow_a; exact upd_a) | (apply ao_valw; exact wants_a; exact ox_a; (exact rfl); exact upd_a) | (apply ao_skip0; exact nots_a) | (apply ao_append; exact wants_a; (exact rfl); assumption; (exact rfl); exact cut_a; exact has_a; (exact rfl); (exact rfl); omega; omega; omega; (exact rfl); intro vr lr hr)) | (apply ah_one; (exact rfl)) | (apply ah_two; (exact rfl); (exact rfl)) | (apply ah_three; (exact rfl); (exact rfl); (exact rfl)) | (refine aw_is ?_; first | (apply aw_held (id := 9) (pl := (.t 0 (.t 1 (.t 2 (.t 3 (.t 4 (.t 5 (.t 6 (.t 7 (.t 8 (.t 9 (.t 10 (.o 11 (.o 12 (.t 13 .e))))))))))))))); (kernel_rfl); (kernel_rfl); (kernel_rfl); (solve | (apply hs_app0; exact List.Sublist.refl _))) | refine aw_seq ?_ | refine aw_block ?_ | refine aw_region ?_ | refine aw_skip ?_ | refine aw_exit ?_ | refine aw_ret ?_ | refine aw_label ?_ | refine aw_scope ?_ | refine aw_cond_t rfl (by with_reducible rfl) ?_ | refine aw_cond_f rfl (by with_reducible rfl) ?_ | refine aw_draw (by kernel_rfl) (by kernel_rfl) ?_) | (first | (refine ah_is ?_; (fail_if_success first | refine ah_glit (b := true) rfl rfl rfl (by with_reducible rfl) ?_ | refine ah_glit (b := false) rfl rfl rfl (by with_reducible rfl) ?_); apply ah_gt; (exact rfl); (exact rfl); (exact rfl); exact t_a) | ((refine ao_is ?_; (fail_if_success first | refine ao_glit (b := true) rfl rfl (by with_reducible rfl) ?_ | refine ao_glit (b := false) rfl rfl (by with_reducible rfl) ?_)); apply ao_gt; (exact rfl); (exact rfl); exact t_a) | ((refine aq_is ?_; (fail_if_success first | refine aq_glit (b := true) rfl rfl (by with_reducible rfl) ?_ | refine aq_glit (b := false) rfl rfl (by with_reducible rfl) ?_)); apply aq_gt; (exact rfl); (exact rfl); exact t_a) | (apply aw_ct; (exact rfl); exact t_a)) | (first | (refine ah_is ?_; (fail_if_success first | refine ah_glit (b := true) rfl rfl rfl (by with_reducible rfl) ?_ | refine ah_glit (b := false) rfl rfl rfl (by with_reducible rfl) ?_); apply ah_gf; (exact rfl); (exact rfl); (exact rfl); exact f_a) | ((refine ao_is ?_; (fail_if_success first | refine ao_glit (b := true) rfl rfl (by with_reducible rfl) ?_ | refine ao_glit (b := false) rfl rfl (by with_reducible rfl) ?_)); apply ao_gf; (exact rfl); (exact rfl); exact f_a) | ((refine aq_is ?_; (fail_if_success first | refine aq_glit (b := true) rfl rfl (by with_reducible rfl) ?_ | refine aq_glit (b := false) rfl rfl (by with_reducible rfl) ?_)); apply aq_gf; (exact rfl); (exact rfl); exact f_a) | (apply aw_cf; (exact rfl); exact f_a)) | refine at_normal ?_ | refine at_exit ?_ | refine at_ret ?_ | refine ib_normal ?_ | refine ib_exit ?_ | refine ib_other ?_ | refine ib_ret ?_ | refine lq_exit ?_ | refine lq_ret ?_ | refine ci_ret ?_ | refine ci_exit ?_ | refine r1_ret rfl ?_ | refine r1_normal rfl ?_ | refine r2_ret rfl rfl ?_ | refine r2_normal rfl rfl ?_ | refine r3_ret rfl rfl rfl ?_ | refine r3_normal rfl rfl rfl ?_ | refine ng_normal ?_ | refine ng_exit ?_ | refine ng_ret ?_ | (apply rt_ret; (exact rfl); (exact rfl); (exact rfl); exact has_a; exact has_a; (exact rfl); (exact rfl)) | (apply rc1_ret; (exact rfl); exact has_a; (exact rfl)) | (apply rc2_ret; (exact rfl); exact has_a; (exact rfl); (exact rfl)) | (refine ao_is ?_; (fail_if_success first | refine ao_glit (b := true) rfl rfl (by with_reducible rfl) ?_ | refine ao_glit (b := false) rfl rfl (by with_reducible rfl) ?_); refine ao_gbool rfl rfl (fun _ => ?_) (fun _ => ?_)) | (refine aq_is ?_; (fail_if_success first | refine aq_glit (b := true) rfl rfl (by with_reducible rfl) ?_ | refine aq_glit (b := false) rfl rfl (by with_reducible rfl) ?_); refine aq_gbool rfl rfl (fun _ => ?_) (fun _ => ?_)) | (refine aw_is ?_; refine aw_cond rfl (fun _ => ?_) (fun _ => ?_)))
      exact lq_normal' ⟨ps.length, k + 1, _, _, outs ++ [cameP (.slice ya p.rs.length yc, p)], rfl, by omega, by omega, by rw [List.length_append, List.length_singleton]; omega, by rw [List.append_assoc]; exact hinv, drow_o hr, rfl, rfl⟩ (by omega) (by repeat (first | exact sub_nil | refine sub_cons rfl ?_)) hsub_a
    · obtain rfl : k = qs.length := by omega
      rw [List.drop_length, List.drop_length, dlP, List.append_nil] at hinv
      rw [hinv] at r5
      repeat' (first | refine aw_seq ?_ | refine zz ?_ | refine zon fun _ => ?_ | refine zoa fun vr lr hr => ?_ | refine zoS (fun _ => ?_) (fun _ => ?_) | refine zqS (fun _ => ?_) (fun _ => ?_) | refine zwS (fun _ => ?_) (fun _ => ?_))
      exact fun w' hw => ⟨_, rfl, hw.below, _, r5, fun b o hm => hw.at_ b o (List.mem_append_left _ hm)⟩
end Chm
end Go.Proofs.YtboimmfegeinaaaGreat
