/- What sums are: of a space, and a scope's number, a vector; Get, put, Move; conditions: none. -/
import Derived.Test.YtkjjlppfomidbaaGreatOmor
import Derived.Test.YtkjjlppfomidbaaGreatScpy
import Derived.Test.YtkjjlppfomidbaaGreatSxn
import Derived.Test.YtkjjlppfomidbaaGreatMkb
/- Lca: What sums are: of a space, and a scope's number, a vector; Get, put, Move; conditions: none. -/
namespace Go.Proofs.YtkjjlppfomidbaaGreat
namespace Lct
open Go Go.RowKit Sx Vec Ojt Scp
attribute [local irreducible] Go.Calls
abbrev Bk := List UInt8 × Int
abbrev Su := Bk × List Ent
def getS (L : List Su) (b : Bk) : List Ent := match L.find? fun e => decide (e.1 = b) with | some e => e.2 | none => []
def putS (L : List Su) (b : Bk) (v : List Ent) : List Su := (L.filter fun e => decide (e.1 ≠ b)) ++ [(b, v)]
def moveG (o : Ob) (c : List Ent) (less : Bool) : Nat → List (List Trm) → List Su → List Su × Int
  | _, [], out => (out, 0)
  | i, sc :: rest, out =>
    if matchS sc o.c o.tm o.bs = false then moveG o c less (i + 1) rest out
    else if (combV less (getS out (o.s, i)) c).2 ≠ 0 then (out, (combV less (getS out (o.s, i)) c).2)
    else moveG o c less (i + 1) rest (putS out (o.s, i) (combV less (getS out (o.s, i)) c).1)
def moveS (scs : List (List Trm)) (L : List Su) (o : Ob) (less : Bool) : List Su × Int :=
  if (chargeO o).2 ≠ 0 then (L, (chargeO o).2)
  else if (moveG o (chargeO o).1 less 0 scs L).2 ≠ 0 then (L, (moveG o (chargeO o).1 less 0 scs L).2)
  else ((moveG o (chargeO o).1 less 0 scs L).1, 0)
abbrev Pu := Bk × Value × List Ent
abbrev sums (ps : List Pu) : List Su := ps.map fun p => (p.1, p.2.2)
def cellsU (p : Pu) : List Value := [S p.1.1, I p.1.2, p.2.1]
theorem cellsU_len (p : Pu) : (cellsU p).length = 3 := rfl
def SumAt (w : World) (v : Value) (ps : List Pu) : Prop := OldRow w 3 v ps.length (ps.flatMap cellsU) ∧ ∀ p ∈ ps, VecAt w p.2.1 p.2.2
theorem SumAt.below {w w' : World} {v : Value} {ps : List Pu} (h : SumAt w v ps) (hb : Below w.heap.size w w') : SumAt w' v ps := ⟨OldRow.below h.1 hb, fun p hp => (h.2 p hp).below hb⟩
def valG (ps : List Pu) (b : Bk) : Value := match ps.find? fun p => decide (p.1 = b) with | some p => p.2.1 | none => .slice none 0 0
def putP (ps : List Pu) (b : Bk) (u : Value) (es : List Ent) : List Pu := (ps.filter fun p => decide (p.1 ≠ b)) ++ [(b, u, es)]
theorem sums_put (ps : List Pu) (b : Bk) (u : Value) (es : List Ent) : sums (putP ps b u es) = putS (sums ps) b es := by
  unfold sums putP putS
  rw [List.map_append, List.filter_map]
  rfl
theorem sums_get (ps : List Pu) (b : Bk) : getS (sums ps) b = match ps.find? fun p => decide (p.1 = b) with | some p => p.2.2 | none => [] := by
  unfold getS sums
  rw [List.find?_map]
  show (match Option.map (fun p : Pu => (p.1, p.2.2)) (ps.find? fun p => decide (p.1 = b)) with | some e => e.2 | none => []) = _
  cases ps.find? fun p => decide (p.1 = b) <;> rfl
theorem vecAt_nil (w : World) : VecAt w (.slice none 0 0) [] := ⟨rfl, none, 0, rfl, fun h => by simp at h⟩
theorem SumAt.get {w : World} {v : Value} {ps : List Pu} (h : SumAt w v ps) (b : Bk) : VecAt w (valG ps b) (getS (sums ps) b) := by
  rw [sums_get]
  unfold valG
  cases hf : ps.find? fun p => decide (p.1 = b) with
  | none => exact vecAt_nil w
  | some p => exact h.2 p (List.mem_of_find?_eq_some hf)
structure BndU (k : Nat) (L : List Su) : Prop where
  len : L.length ≤ 20 * k
  sp : ∀ e ∈ L, e.1.1.length ≤ 100000
  vs : ∀ e ∈ L, wfV e.2 ∧ e.2.length ≤ 17 * k
theorem BndU.nil : BndU 0 [] := ⟨Nat.le_refl _, (fun e h => by cases h), (fun e h => by cases h)⟩
theorem wfV_nil : wfV [] := ⟨by simp, fun e he => by cases he⟩
end Lct
end Go.Proofs.YtkjjlppfomidbaaGreat
/- Lcb: The document's answer for layer 13: Get, put; conditions: at most 100,000 sums. -/
namespace Go.Proofs.YtkjjlppfomidbaaGreat
namespace Lct
open Go Go.RowKit Sx Vec Ojt Scp
attribute [local irreducible] Go.Calls
theorem getP {α : Type} {l : List α} {i : Nat} (h : i < l.length) : ∃ a, l[i]? = some a := ⟨_, List.getElem?_eq_getElem h⟩
abbrev BV (b : Bk) : Value := .agg #[S b.1, I b.2]
theorem bk_eq (a b : Bk) : eqAll [S a.1, I a.2] [S b.1, I b.2] = decide (a = b) := by
  obtain ⟨a1, a2⟩ := a
  obtain ⟨b1, b2⟩ := b
  rw [Bool.eq_iff_iff]
  simp [eqAll, eqB]
set_option maxHeartbeats 8000000 in
theorem rgetS_ok {w : World} {v : Value} {ps : List Pu} (h : SumAt w v ps) (hl : ps.length ≤ 100000) (b : Bk) :
    Calls Tryz.prog 14 #[v, BV b] w fun e w' => e = .returned (valG ps b) ∧ Below w.heap.size w w' := by
  obtain ⟨a, cp, rfl, hat⟩ := OldRow.cells cellsU_len h.1
  refine calls1 (args := [.slice a ps.length cp, BV b]) Tryz.func14 rfl rfl rfl rfl ?_
  repeat' (first | refine aw_seq ?_ | refine zz ?_ | refine zon fun _ => ?_ | refine zoa fun vr lr hr => ?_ | refine zoS (fun _ => ?_) (fun _ => ?_) | refine zqS (fun _ => ?_) (fun _ => ?_) | refine zwS (fun _ => ?_) (fun _ => ?_))
  rename_i bx
  refine aw_for (t0 := [(0, .slice a ps.length cp), (3, .pointer (some ⟨bx, 0, none⟩)), (5, I (0 : Nat))]) (fun q t H => ∃ i : Nat, q = ps.length - i ∧ i ≤ ps.length ∧ (∀ (j : Nat) (p : Pu), j < i → ps[j]? = some p → p.1 ≠ b) ∧ t = [(0, .slice a ps.length cp), (3, .pointer (some ⟨bx, 0, none⟩)), (5, I i)] ∧ H = [(bx, .cells #[S b.1, I b.2] 52 (0, 0))]) ⟨0, rfl, by omega, fun j p hj => by omega, rfl, rfl⟩ (by repeat (first | exact sub_nil | refine sub_cons rfl ?_)) ?_
  rintro q t H ⟨i, rfl, hi, hall, rfl, rfl⟩
  by_cases hlt : i < ps.length
  · obtain ⟨⟨c, u, es⟩, he⟩ := getP hlt
    obtain ⟨g, o1, rfl, hg, hc⟩ := hat i _ (i : Int) he rfl
    have cB : ∀ (j : Nat) z, [S c.1, I c.2][j]? = some z → w.cell? ⟨g, o1 + (i : Int).toNat * 3 + j, none⟩ = some z := fun j z hj => hc j z (by
      match j, hj with
      | 0, hj => exact hj
      | 1, hj => exact hj)
    have cV : w.cell? ⟨g, o1 + (i : Int).toNat * 3 + 2, none⟩ = some u := hc 2 _ rfl
    have hke := bk_eq c b
    by_cases hk : c = b
    · rw [decide_eq_true hk] at hke
      have hf : ps.find? (fun p => decide (p.1 = b)) = some (c, u, es) := by
        rw [List.find?_eq_some_iff_getElem]
        refine ⟨decide_eq_true hk, i, hlt, (List.getElem?_eq_some_iff.1 he).2, fun j hj => ?_⟩
        have := hall j _ hj (List.getElem?_eq_getElem (by omega))
        simpa using this
      rw [show valG ps b = u by unfold valG; rw [hf]]
      repeat' (first | (apply ao_nilh; exact hsub_a) | apply ao_nil | apply aq_nil | apply ah_end | ((first | apply ao_val | apply aq_val | (apply ah_take; (exact rfl))); exact wants_a; (first | exact ov_load_oa rfl hg cB rfl | exact ov_a); (exact rfl)) | ((first | apply ao_skip | apply aq_skip | (apply ah_skip; (exact rfl))); exact nots_a; (exact rfl)) | (refine ao_is ?_; first | (apply ao_new; exact wants_a; exact on_a; (exact rfl); intro _) | (apply ao_store; exact wants_a; exact ow_a; exact upd_a) | (apply ao_valw; exact wants_a; exact ox_a; (exact rfl); exact upd_a) | (apply ao_skip0; exact nots_a) | (apply ao_append; exact wants_a; (exact rfl); assumption; (exact rfl); exact cut_a; exact has_a; (exact rfl); (exact rfl); omega; omega; omega; (exact rfl); intro vr lr hr)) | (apply ah_one; (exact rfl)) | (apply ah_two; (exact rfl); (exact rfl)) | (apply ah_three; (exact rfl); (exact rfl); (exact rfl)) | (refine aw_is ?_; first | (apply aw_held (id := 4) (pl := (.t 0 (.t 1 (.t 2 (.t 3 (.t 4 (.t 5 (.t 6 .e)))))))); (kernel_rfl); (kernel_rfl); (kernel_rfl); (solve | (exact List.Sublist.refl _))) | refine aw_seq ?_ | refine aw_block ?_ | refine aw_region ?_ | refine aw_skip ?_ | refine aw_exit ?_ | refine aw_ret ?_ | refine aw_label ?_ | refine aw_scope ?_ | refine aw_cond_t rfl (by with_reducible rfl) ?_ | refine aw_cond_f rfl (by with_reducible rfl) ?_ | refine aw_draw (by kernel_rfl) (by kernel_rfl) ?_) | (first | (refine ah_is ?_; (fail_if_success first | refine ah_glit (b := true) rfl rfl rfl (by with_reducible rfl) ?_ | refine ah_glit (b := false) rfl rfl rfl (by with_reducible rfl) ?_); apply ah_gt; (exact rfl); (exact rfl); (exact rfl); exact t_a) | ((refine ao_is ?_; (fail_if_success first | refine ao_glit (b := true) rfl rfl (by with_reducible rfl) ?_ | refine ao_glit (b := false) rfl rfl (by with_reducible rfl) ?_)); apply ao_gt; (exact rfl); (exact rfl); exact t_a) | ((refine aq_is ?_; (fail_if_success first | refine aq_glit (b := true) rfl rfl (by with_reducible rfl) ?_ | refine aq_glit (b := false) rfl rfl (by with_reducible rfl) ?_)); apply aq_gt; (exact rfl); (exact rfl); exact t_a) | (apply aw_ct; (exact rfl); exact t_a)) | (first | (refine ah_is ?_; (fail_if_success first | refine ah_glit (b := true) rfl rfl rfl (by with_reducible rfl) ?_ | refine ah_glit (b := false) rfl rfl rfl (by with_reducible rfl) ?_); apply ah_gf; (exact rfl); (exact rfl); (exact rfl); exact f_a) | ((refine ao_is ?_; (fail_if_success first | refine ao_glit (b := true) rfl rfl (by with_reducible rfl) ?_ | refine ao_glit (b := false) rfl rfl (by with_reducible rfl) ?_)); apply ao_gf; (exact rfl); (exact rfl); exact f_a) | ((refine aq_is ?_; (fail_if_success first | refine aq_glit (b := true) rfl rfl (by with_reducible rfl) ?_ | refine aq_glit (b := false) rfl rfl (by with_reducible rfl) ?_)); apply aq_gf; (exact rfl); (exact rfl); exact f_a) | (apply aw_cf; (exact rfl); exact f_a)) | refine at_normal ?_ | refine at_exit ?_ | refine at_ret ?_ | refine ib_normal ?_ | refine ib_exit ?_ | refine ib_other ?_ | refine ib_ret ?_ | refine lq_exit ?_ | refine lq_ret ?_ | refine ci_ret ?_ | refine ci_exit ?_ | refine r1_ret rfl ?_ | refine r1_normal rfl ?_ | refine r2_ret rfl rfl ?_ | refine r2_normal rfl rfl ?_ | refine r3_ret rfl rfl rfl ?_ | refine r3_normal rfl rfl rfl ?_ | refine ng_normal ?_ | refine ng_exit ?_ | refine ng_ret ?_ | (apply rt_ret; (exact rfl); (exact rfl); (exact rfl); exact has_a; exact has_a; (exact rfl); (exact rfl)) | (apply rc1_ret; (exact rfl); exact has_a; (exact rfl)) | (apply rc2_ret; (exact rfl); exact has_a; (exact rfl); (exact rfl)) | (refine ao_is ?_; (fail_if_success first | refine ao_glit (b := true) rfl rfl (by with_reducible rfl) ?_ | refine ao_glit (b := false) rfl rfl (by with_reducible rfl) ?_); refine ao_gbool rfl rfl (fun _ => ?_) (fun _ => ?_)) | (refine aq_is ?_; (fail_if_success first | refine aq_glit (b := true) rfl rfl (by with_reducible rfl) ?_ | refine aq_glit (b := false) rfl rfl (by with_reducible rfl) ?_); refine aq_gbool rfl rfl (fun _ => ?_) (fun _ => ?_)) | (refine aw_is ?_; refine aw_cond rfl (fun _ => ?_) (fun _ => ?_)))
      exact fun w' hw => ⟨rfl, hw.below⟩
    · rw [decide_eq_false hk] at hke
      repeat' (first | (apply ao_nilh; exact hsub_a) | apply ao_nil | apply aq_nil | apply ah_end | ((first | apply ao_val | apply aq_val | (apply ah_take; (exact rfl))); exact wants_a; (first | exact ov_load_oa rfl hg cB rfl | exact ov_a); (exact rfl)) | ((first | apply ao_skip | apply aq_skip | (apply ah_skip; (exact rfl))); exact nots_a; (exact rfl)) | (refine ao_is ?_; first | (apply ao_new; exact wants_a; exact on_a; (exact rfl); intro _) | (apply ao_store; exact wants_a; exact ow_a; exact upd_a) | (apply ao_valw; exact wants_a; exact ox_a; (exact rfl); exact upd_a) | (apply ao_skip0; exact nots_a) | (apply ao_append; exact wants_a; (exact rfl); assumption; (exact rfl); exact cut_a; exact has_a; (exact rfl); (exact rfl); omega; omega; omega; (exact rfl); intro vr lr hr)) | (apply ah_one; (exact rfl)) | (apply ah_two; (exact rfl); (exact rfl)) | (apply ah_three; (exact rfl); (exact rfl); (exact rfl)) | (refine aw_is ?_; first | (apply aw_held (id := 4) (pl := (.t 0 (.t 1 (.t 2 (.t 3 (.t 4 (.t 5 (.t 6 .e)))))))); (kernel_rfl); (kernel_rfl); (kernel_rfl); (solve | (exact List.Sublist.refl _))) | refine aw_seq ?_ | refine aw_block ?_ | refine aw_region ?_ | refine aw_skip ?_ | refine aw_exit ?_ | refine aw_ret ?_ | refine aw_label ?_ | refine aw_scope ?_ | refine aw_cond_t rfl (by with_reducible rfl) ?_ | refine aw_cond_f rfl (by with_reducible rfl) ?_ | refine aw_draw (by kernel_rfl) (by kernel_rfl) ?_) | (first | (refine ah_is ?_; (fail_if_success first | refine ah_glit (b := true) rfl rfl rfl (by with_reducible rfl) ?_ | refine ah_glit (b := false) rfl rfl rfl (by with_reducible rfl) ?_); apply ah_gt; (exact rfl); (exact rfl); (exact rfl); exact t_a) | ((refine ao_is ?_; (fail_if_success first | refine ao_glit (b := true) rfl rfl (by with_reducible rfl) ?_ | refine ao_glit (b := false) rfl rfl (by with_reducible rfl) ?_)); apply ao_gt; (exact rfl); (exact rfl); exact t_a) | ((refine aq_is ?_; (fail_if_success first | refine aq_glit (b := true) rfl rfl (by with_reducible rfl) ?_ | refine aq_glit (b := false) rfl rfl (by with_reducible rfl) ?_)); apply aq_gt; (exact rfl); (exact rfl); exact t_a) | (apply aw_ct; (exact rfl); exact t_a)) | (first | (refine ah_is ?_; (fail_if_success first | refine ah_glit (b := true) rfl rfl rfl (by with_reducible rfl) ?_ | refine ah_glit (b := false) rfl rfl rfl (by with_reducible rfl) ?_); apply ah_gf; (exact rfl); (exact rfl); (exact rfl); exact f_a) | ((refine ao_is ?_; (fail_if_success first | refine ao_glit (b := true) rfl rfl (by with_reducible rfl) ?_ | refine ao_glit (b := false) rfl rfl (by with_reducible rfl) ?_)); apply ao_gf; (exact rfl); (exact rfl); exact f_a) | ((refine aq_is ?_; (fail_if_success first | refine aq_glit (b := true) rfl rfl (by with_reducible rfl) ?_ | refine aq_glit (b := false) rfl rfl (by with_reducible rfl) ?_)); apply aq_gf; (exact rfl); (exact rfl); exact f_a) | (apply aw_cf; (exact rfl); exact f_a)) | refine at_normal ?_ | refine at_exit ?_ | refine at_ret ?_ | refine ib_normal ?_ | refine ib_exit ?_ | refine ib_other ?_ | refine ib_ret ?_ | refine lq_exit ?_ | refine lq_ret ?_ | refine ci_ret ?_ | refine ci_exit ?_ | refine r1_ret rfl ?_ | refine r1_normal rfl ?_ | refine r2_ret rfl rfl ?_ | refine r2_normal rfl rfl ?_ | refine r3_ret rfl rfl rfl ?_ | refine r3_normal rfl rfl rfl ?_ | refine ng_normal ?_ | refine ng_exit ?_ | refine ng_ret ?_ | (apply rt_ret; (exact rfl); (exact rfl); (exact rfl); exact has_a; exact has_a; (exact rfl); (exact rfl)) | (apply rc1_ret; (exact rfl); exact has_a; (exact rfl)) | (apply rc2_ret; (exact rfl); exact has_a; (exact rfl); (exact rfl)) | (refine ao_is ?_; (fail_if_success first | refine ao_glit (b := true) rfl rfl (by with_reducible rfl) ?_ | refine ao_glit (b := false) rfl rfl (by with_reducible rfl) ?_); refine ao_gbool rfl rfl (fun _ => ?_) (fun _ => ?_)) | (refine aq_is ?_; (fail_if_success first | refine aq_glit (b := true) rfl rfl (by with_reducible rfl) ?_ | refine aq_glit (b := false) rfl rfl (by with_reducible rfl) ?_); refine aq_gbool rfl rfl (fun _ => ?_) (fun _ => ?_)) | (refine aw_is ?_; refine aw_cond rfl (fun _ => ?_) (fun _ => ?_)))
      exact lq_normal' ⟨i + 1, rfl, by omega, fun j p hj hp => by
        by_cases e1 : j = i
        · subst e1; rw [he] at hp; cases hp; exact hk
        · exact hall j p (by omega) hp, rfl, rfl⟩ (by omega) (by repeat (first | exact sub_nil | refine sub_cons rfl ?_)) hsub_a
  · obtain rfl : i = ps.length := by omega
    have hf : ps.find? (fun p => decide (p.1 = b)) = none := by
      rw [List.find?_eq_none]
      intro p hp
      obtain ⟨j, hj⟩ := List.getElem?_of_mem hp
      have := hall j p (List.getElem?_eq_some_iff.1 hj).1 hj
      simpa using this
    rw [show valG ps b = .slice none 0 0 by unfold valG; rw [hf]]
    repeat' (first | refine aw_seq ?_ | refine zz ?_ | refine zon fun _ => ?_ | refine zoa fun vr lr hr => ?_ | refine zoS (fun _ => ?_) (fun _ => ?_) | refine zqS (fun _ => ?_) (fun _ => ?_) | refine zwS (fun _ => ?_) (fun _ => ?_))
    exact fun w' hw => ⟨rfl, hw.below⟩
def puN (ps : List Pu) (b : Bk) (i : Nat) : List Pu := (ps.take i).filter fun p => decide (p.1 ≠ b)
theorem puN_s {ps : List Pu} {b : Bk} {i : Nat} {p : Pu} (he : ps[i]? = some p) : puN ps b (i + 1) = puN ps b i ++ (if p.1 ≠ b then [p] else []) := by
  unfold puN
  rw [List.take_add_one, he, List.filter_append]
  congr 1
  show (List.filter _ [p]) = _
  by_cases h : p.1 ≠ b
  · rw [if_pos h, List.filter_cons, if_pos (decide_eq_true h)]; rfl
  · rw [if_neg h, List.filter_cons, if_neg (by rw [decide_eq_false h]; decide)]; rfl
theorem puN_len (ps : List Pu) (b : Bk) (i : Nat) : (puN ps b i).length ≤ i := by
  unfold puN
  have := List.length_filter_le (fun p : Pu => decide (p.1 ≠ b)) (ps.take i)
  rw [List.length_take] at this
  omega
theorem puN_mem {ps : List Pu} {b : Bk} {i : Nat} {p : Pu} (h : p ∈ puN ps b i) : p ∈ ps := List.mem_of_mem_take (List.mem_filter.1 h).1
theorem rowU {v : Value} {l : Hp} {ks : List Pu} {k : Pu} {e : TypeId} (h : RowB e 3 v l (ks.length + 1) (ks.flatMap cellsU ++ [S k.1.1, I k.1.2, k.2.1])) : RowB e 3 v l (ks ++ [k]).length ((ks ++ [k]).flatMap cellsU) := by
  rw [List.length_append, List.flatMap_append]
  exact h
theorem vec_slice {w : World} {v : Value} {es : List Ent} (h : VecAt w v es) : ∃ a n c, v = .slice a n c := by
  obtain ⟨-, a, c, rfl, -⟩ := h
  exact ⟨a, _, c, rfl⟩
theorem flatU {w : World} {es : List Pu} (h : ∀ p ∈ es, VecAt w p.2.1 p.2.2) : (es.flatMap cellsU).all flat = true := by
  rw [List.all_eq_true]
  intro x hx
  obtain ⟨p, hp, hxe⟩ := List.mem_flatMap.1 hx
  obtain ⟨a, n, c, hv⟩ := vec_slice (h p hp)
  unfold cellsU at hxe
  rw [hv] at hxe
  simp only [List.mem_cons, List.not_mem_nil, or_false] at hxe
  rcases hxe with h | h | h <;> subst h <;> rfl
set_option maxHeartbeats 8000000 in
theorem rputS_ok {w : World} {v u : Value} {ps : List Pu} {es : List Ent} (h : SumAt w v ps) (hl : ps.length ≤ 100000) (b : Bk) (hu : VecAt w u es) :
    Calls Tryz.prog 73 #[v, BV b, u] w fun e w' => ∃ r, e = .returned r ∧ NewRow 98 3 w w' r (putP ps b u es).length ((putP ps b u es).flatMap cellsU) := by
  obtain ⟨a, cp, rfl, hat⟩ := OldRow.cells cellsU_len h.1
  obtain ⟨au, nu, cu, rfl⟩ := vec_slice hu
  refine calls1 (args := [.slice a ps.length cp, BV b, .slice au nu cu]) Tryz.func73 rfl rfl rfl rfl ?_
  repeat' (first | refine aw_seq ?_ | refine zz ?_ | refine zon fun _ => ?_ | refine zoa fun vr lr hr => ?_ | refine zoS (fun _ => ?_) (fun _ => ?_) | refine zqS (fun _ => ?_) (fun _ => ?_) | refine zwS (fun _ => ?_) (fun _ => ?_))
  rename_i bx
  refine aw_for (t0 := [(0, .slice a ps.length cp), (2, .slice au nu cu), (4, .pointer (some ⟨bx, 0, none⟩)), (7, .slice none 0 0), (8, I (0 : Nat))]) (fun q t H => ∃ (i : Nat) (v5 : Value) (l5 : Hp), q = ps.length - i ∧ i ≤ ps.length ∧ RowB 98 3 v5 l5 (puN ps b i).length ((puN ps b i).flatMap cellsU) ∧ t = [(0, .slice a ps.length cp), (2, .slice au nu cu), (4, .pointer (some ⟨bx, 0, none⟩)), (7, v5), (8, I i)] ∧ H = l5 ++ [(bx, .cells #[S b.1, I b.2] 52 (0, 0))]) ⟨0, _, [], rfl, by omega, RowB.nil, rfl, rfl⟩ (by repeat (first | exact sub_nil | refine sub_cons rfl ?_)) ?_
  rintro q t H ⟨i, v5, l5, rfl, hi, r5, rfl, rfl⟩
  obtain ⟨a5, c5, hv5⟩ := r5.len
  subst hv5
  have hln := puN_len ps b i
  have hfo := flatU (es := puN ps b i) fun p hp => h.2 p (puN_mem hp)
  by_cases hlt : i < ps.length
  · obtain ⟨⟨c, u2, es2⟩, he⟩ := getP hlt
    obtain ⟨a2, n2, c2, hu2⟩ := vec_slice (h.2 _ (List.mem_of_getElem? he))
    simp only at hu2
    subst hu2
    obtain ⟨g, o1, rfl, hg, hc⟩ := hat i _ (i : Int) he rfl
    have cB : ∀ (j : Nat) z, [S c.1, I c.2][j]? = some z → w.cell? ⟨g, o1 + (i : Int).toNat * 3 + j, none⟩ = some z := fun j z hj => hc j z (by
      match j, hj with
      | 0, hj => exact hj
      | 1, hj => exact hj)
    have cA : ∀ (j : Nat) z, [S c.1, I c.2, .slice a2 n2 c2][j]? = some z → w.cell? ⟨g, o1 + (i : Int).toNat * 3 + j, none⟩ = some z := hc
    have hke := bk_eq c b
    have hnx := puN_s (b := b) he
    simp only at hnx
    by_cases hk : c = b
    · rw [decide_eq_true hk] at hke
      rw [if_neg fun h => h hk, List.append_nil] at hnx
      repeat' (first | (apply ao_nilh; exact hsub_a) | apply ao_nil | apply aq_nil | apply ah_end | ((first | apply ao_val | apply aq_val | (apply ah_take; (exact rfl))); exact wants_a; (first | exact ov_load_oa rfl hg cB rfl | exact ov_a); (exact rfl)) | ((first | apply ao_skip | apply aq_skip | (apply ah_skip; (exact rfl))); exact nots_a; (exact rfl)) | (refine ao_is ?_; first | (apply ao_new; exact wants_a; exact on_a; (exact rfl); intro _) | (apply ao_store; exact wants_a; exact ow_a; exact upd_a) | (apply ao_valw; exact wants_a; exact ox_a; (exact rfl); exact upd_a) | (apply ao_skip0; exact nots_a) | (apply ao_append; exact wants_a; (exact rfl); assumption; (exact rfl); exact cut_a; exact has_a; (exact rfl); (exact rfl); omega; omega; omega; (exact rfl); intro vr lr hr)) | (apply ah_one; (exact rfl)) | (apply ah_two; (exact rfl); (exact rfl)) | (apply ah_three; (exact rfl); (exact rfl); (exact rfl)) | (refine aw_is ?_; first | (apply aw_held (id := 5) (pl := (.t 0 (.t 1 (.t 2 (.t 3 (.t 4 (.t 5 (.t 6 .e)))))))); (kernel_rfl); (kernel_rfl); (kernel_rfl); (solve | (exact List.Sublist.refl _))) | refine aw_seq ?_ | refine aw_block ?_ | refine aw_region ?_ | refine aw_skip ?_ | refine aw_exit ?_ | refine aw_ret ?_ | refine aw_label ?_ | refine aw_scope ?_ | refine aw_cond_t rfl (by with_reducible rfl) ?_ | refine aw_cond_f rfl (by with_reducible rfl) ?_ | refine aw_draw (by kernel_rfl) (by kernel_rfl) ?_) | (first | (refine ah_is ?_; (fail_if_success first | refine ah_glit (b := true) rfl rfl rfl (by with_reducible rfl) ?_ | refine ah_glit (b := false) rfl rfl rfl (by with_reducible rfl) ?_); apply ah_gt; (exact rfl); (exact rfl); (exact rfl); exact t_a) | ((refine ao_is ?_; (fail_if_success first | refine ao_glit (b := true) rfl rfl (by with_reducible rfl) ?_ | refine ao_glit (b := false) rfl rfl (by with_reducible rfl) ?_)); apply ao_gt; (exact rfl); (exact rfl); exact t_a) | ((refine aq_is ?_; (fail_if_success first | refine aq_glit (b := true) rfl rfl (by with_reducible rfl) ?_ | refine aq_glit (b := false) rfl rfl (by with_reducible rfl) ?_)); apply aq_gt; (exact rfl); (exact rfl); exact t_a) | (apply aw_ct; (exact rfl); exact t_a)) | (first | (refine ah_is ?_; (fail_if_success first | refine ah_glit (b := true) rfl rfl rfl (by with_reducible rfl) ?_ | refine ah_glit (b := false) rfl rfl rfl (by with_reducible rfl) ?_); apply ah_gf; (exact rfl); (exact rfl); (exact rfl); exact f_a) | ((refine ao_is ?_; (fail_if_success first | refine ao_glit (b := true) rfl rfl (by with_reducible rfl) ?_ | refine ao_glit (b := false) rfl rfl (by with_reducible rfl) ?_)); apply ao_gf; (exact rfl); (exact rfl); exact f_a) | ((refine aq_is ?_; (fail_if_success first | refine aq_glit (b := true) rfl rfl (by with_reducible rfl) ?_ | refine aq_glit (b := false) rfl rfl (by with_reducible rfl) ?_)); apply aq_gf; (exact rfl); (exact rfl); exact f_a) | (apply aw_cf; (exact rfl); exact f_a)) | refine at_normal ?_ | refine at_exit ?_ | refine at_ret ?_ | refine ib_normal ?_ | refine ib_exit ?_ | refine ib_other ?_ | refine ib_ret ?_ | refine lq_exit ?_ | refine lq_ret ?_ | refine ci_ret ?_ | refine ci_exit ?_ | refine r1_ret rfl ?_ | refine r1_normal rfl ?_ | refine r2_ret rfl rfl ?_ | refine r2_normal rfl rfl ?_ | refine r3_ret rfl rfl rfl ?_ | refine r3_normal rfl rfl rfl ?_ | refine ng_normal ?_ | refine ng_exit ?_ | refine ng_ret ?_ | (apply rt_ret; (exact rfl); (exact rfl); (exact rfl); exact has_a; exact has_a; (exact rfl); (exact rfl)) | (apply rc1_ret; (exact rfl); exact has_a; (exact rfl)) | (apply rc2_ret; (exact rfl); exact has_a; (exact rfl); (exact rfl)) | (refine ao_is ?_; (fail_if_success first | refine ao_glit (b := true) rfl rfl (by with_reducible rfl) ?_ | refine ao_glit (b := false) rfl rfl (by with_reducible rfl) ?_); refine ao_gbool rfl rfl (fun _ => ?_) (fun _ => ?_)) | (refine aq_is ?_; (fail_if_success first | refine aq_glit (b := true) rfl rfl (by with_reducible rfl) ?_ | refine aq_glit (b := false) rfl rfl (by with_reducible rfl) ?_); refine aq_gbool rfl rfl (fun _ => ?_) (fun _ => ?_)) | (refine aw_is ?_; refine aw_cond rfl (fun _ => ?_) (fun _ => ?_)))
      exact lq_normal' ⟨i + 1, _, _, rfl, by omega, by rw [hnx]; exact r5, rfl, rfl⟩ (by omega) (by repeat (first | exact sub_nil | refine sub_cons rfl ?_)) hsub_a
    · rw [decide_eq_false hk] at hke
      rw [if_pos hk] at hnx
      repeat' (first | (apply ao_nilh; exact hsub_a) | apply ao_nil | apply aq_nil | apply ah_end | ((first | apply ao_val | apply aq_val | (apply ah_take; (exact rfl))); exact wants_a; (first | exact ov_load_oa rfl hg cB rfl | exact ov_load_oa rfl hg cA rfl | exact ov_a); (exact rfl)) | ((first | apply ao_skip | apply aq_skip | (apply ah_skip; (exact rfl))); exact nots_a; (exact rfl)) | (refine ao_is ?_; first | (apply ao_new; exact wants_a; exact on_a; (exact rfl); intro _) | (apply ao_store; exact wants_a; exact ow_a; exact upd_a) | (apply ao_valw; exact wants_a; exact ox_a; (exact rfl); exact upd_a) | (apply ao_skip0; exact nots_a) | (apply ao_append; exact wants_a; (exact rfl); assumption; (exact rfl); exact cut_a; exact has_a; (exact rfl); (exact rfl); omega; omega; omega; (exact rfl); intro vr lr hr)) | (apply ah_one; (exact rfl)) | (apply ah_two; (exact rfl); (exact rfl)) | (apply ah_three; (exact rfl); (exact rfl); (exact rfl)) | (refine aw_is ?_; first | (apply aw_held (id := 5) (pl := (.t 0 (.t 1 (.t 2 (.t 3 (.t 4 (.t 5 (.t 6 .e)))))))); (kernel_rfl); (kernel_rfl); (kernel_rfl); (solve | (exact List.Sublist.refl _))) | refine aw_seq ?_ | refine aw_block ?_ | refine aw_region ?_ | refine aw_skip ?_ | refine aw_exit ?_ | refine aw_ret ?_ | refine aw_label ?_ | refine aw_scope ?_ | refine aw_cond_t rfl (by with_reducible rfl) ?_ | refine aw_cond_f rfl (by with_reducible rfl) ?_ | refine aw_draw (by kernel_rfl) (by kernel_rfl) ?_) | (first | (refine ah_is ?_; (fail_if_success first | refine ah_glit (b := true) rfl rfl rfl (by with_reducible rfl) ?_ | refine ah_glit (b := false) rfl rfl rfl (by with_reducible rfl) ?_); apply ah_gt; (exact rfl); (exact rfl); (exact rfl); exact t_a) | ((refine ao_is ?_; (fail_if_success first | refine ao_glit (b := true) rfl rfl (by with_reducible rfl) ?_ | refine ao_glit (b := false) rfl rfl (by with_reducible rfl) ?_)); apply ao_gt; (exact rfl); (exact rfl); exact t_a) | ((refine aq_is ?_; (fail_if_success first | refine aq_glit (b := true) rfl rfl (by with_reducible rfl) ?_ | refine aq_glit (b := false) rfl rfl (by with_reducible rfl) ?_)); apply aq_gt; (exact rfl); (exact rfl); exact t_a) | (apply aw_ct; (exact rfl); exact t_a)) | (first | (refine ah_is ?_; (fail_if_success first | refine ah_glit (b := true) rfl rfl rfl (by with_reducible rfl) ?_ | refine ah_glit (b := false) rfl rfl rfl (by with_reducible rfl) ?_); apply ah_gf; (exact rfl); (exact rfl); (exact rfl); exact f_a) | ((refine ao_is ?_; (fail_if_success first | refine ao_glit (b := true) rfl rfl (by with_reducible rfl) ?_ | refine ao_glit (b := false) rfl rfl (by with_reducible rfl) ?_)); apply ao_gf; (exact rfl); (exact rfl); exact f_a) | ((refine aq_is ?_; (fail_if_success first | refine aq_glit (b := true) rfl rfl (by with_reducible rfl) ?_ | refine aq_glit (b := false) rfl rfl (by with_reducible rfl) ?_)); apply aq_gf; (exact rfl); (exact rfl); exact f_a) | (apply aw_cf; (exact rfl); exact f_a)) | refine at_normal ?_ | refine at_exit ?_ | refine at_ret ?_ | refine ib_normal ?_ | refine ib_exit ?_ | refine ib_other ?_ | refine ib_ret ?_ | refine lq_exit ?_ | refine lq_ret ?_ | refine ci_ret ?_ | refine ci_exit ?_ | refine r1_ret rfl ?_ | refine r1_normal rfl ?_ | refine r2_ret rfl rfl ?_ | refine r2_normal rfl rfl ?_ | refine r3_ret rfl rfl rfl ?_ | refine r3_normal rfl rfl rfl ?_ | refine ng_normal ?_ | refine ng_exit ?_ | refine ng_ret ?_ | (apply rt_ret; (exact rfl); (exact rfl); (exact rfl); exact has_a; exact has_a; (exact rfl); (exact rfl)) | (apply rc1_ret; (exact rfl); exact has_a; (exact rfl)) | (apply rc2_ret; (exact rfl); exact has_a; (exact rfl); (exact rfl)) | (refine ao_is ?_; (fail_if_success first | refine ao_glit (b := true) rfl rfl (by with_reducible rfl) ?_ | refine ao_glit (b := false) rfl rfl (by with_reducible rfl) ?_); refine ao_gbool rfl rfl (fun _ => ?_) (fun _ => ?_)) | (refine aq_is ?_; (fail_if_success first | refine aq_glit (b := true) rfl rfl (by with_reducible rfl) ?_ | refine aq_glit (b := false) rfl rfl (by with_reducible rfl) ?_); refine aq_gbool rfl rfl (fun _ => ?_) (fun _ => ?_)) | (refine aw_is ?_; refine aw_cond rfl (fun _ => ?_) (fun _ => ?_)))
      exact lq_normal' ⟨i + 1, _, _, rfl, by omega, by rw [hnx]; exact rowU hr, rfl, rfl⟩ (by omega) (by repeat (first | exact sub_nil | refine sub_cons rfl ?_)) hsub_a
  · obtain rfl : i = ps.length := by omega
    have e5 : puN ps b ps.length = ps.filter fun p => decide (p.1 ≠ b) := by unfold puN; rw [List.take_length]
    unfold putP
    rw [← e5]
    repeat' (first | refine aw_seq ?_ | refine zz ?_ | refine zon fun _ => ?_ | refine zoa fun vr lr hr => ?_ | refine zoS (fun _ => ?_) (fun _ => ?_) | refine zqS (fun _ => ?_) (fun _ => ?_) | refine zwS (fun _ => ?_) (fun _ => ?_))
    exact fun w' hw => ⟨_, rfl, hw.below, _, rowU (k := (b, .slice au nu cu, es)) hr, fun b o hm => hw.at_ b o (List.mem_append_left _ hm)⟩
end Lct
end Go.Proofs.YtkjjlppfomidbaaGreat
/- Lcc: The document's answer for layer 13: Move; conditions: at most 1,000 moves. -/
namespace Go.Proofs.YtkjjlppfomidbaaGreat
namespace Lct
open Go Go.RowKit Sx Vec Ojt Scp
attribute [local irreducible] Go.Calls
theorem charge_wf {o : Ob} (h : wfO o) : wfV (chargeO o).1 ∧ (chargeO o).1.length ≤ 17 := by
  unfold chargeO
  split
  · obtain ⟨q1, q2⟩ := of_wf h.2.2.2.2
    obtain ⟨h1, h2⟩ := wf_comb (less := false) q1 w_one.1 (by omega) (show [((nObj, 1) : Ent)].length ≤ 20000 by decide)
    exact ⟨h1, Nat.le_trans h2 (by have : [((nObj, 1) : Ent)].length = 1 := rfl; omega)⟩
  · exact ⟨wfV_nil, Nat.zero_le _⟩
abbrev Sc := Value × List (Value × Trm)
def cellsSc (s : Sc) : List Value := [s.1]
theorem cellsSc_len (s : Sc) : (cellsSc s).length = 1 := rfl
def ScsAt (w : World) (v : Value) (ss : List Sc) : Prop := OldRow w 1 v ss.length (ss.flatMap cellsSc) ∧ ∀ s ∈ ss, ScpAt w s.1 s.2
theorem ScsAt.below {w w' : World} {v : Value} {ss : List Sc} (h : ScsAt w v ss) (hb : Below w.heap.size w w') : ScsAt w' v ss := ⟨OldRow.below h.1 hb, fun s hs => (h.2 s hs).below hb⟩
abbrev scT (ss : List Sc) : List (List Trm) := ss.map fun s => trms s.2
structure BndI (k i : Nat) (L : List Su) : Prop where
  len : L.length ≤ 20 * k + i
  sp : ∀ e ∈ L, e.1.1.length ≤ 100000
  vs : ∀ e ∈ L, wfV e.2 ∧ e.2.length ≤ 17 * (k + 1) ∧ ((i : Int) ≤ e.1.2 → e.2.length ≤ 17 * k)
theorem BndU.start {k : Nat} {L : List Su} (h : BndU k L) : BndI k 0 L := ⟨h.len, h.sp, fun e he => ⟨(h.vs e he).1, by have := (h.vs e he).2; omega, fun _ => (h.vs e he).2⟩⟩
theorem BndI.skip {k i : Nat} {L : List Su} (h : BndI k i L) : BndI k (i + 1) L := ⟨by have := h.len; omega, h.sp, fun e he => ⟨(h.vs e he).1, (h.vs e he).2.1, fun hi => (h.vs e he).2.2 (by omega)⟩⟩
theorem BndI.fin {k i : Nat} {L : List Su} (h : BndI k i L) (hi : i ≤ 20) : BndU (k + 1) L := ⟨by have := h.len; omega, h.sp, fun e he => ⟨(h.vs e he).1, (h.vs e he).2.1⟩⟩
theorem BndI.get {k i : Nat} {L : List Su} (h : BndI k i L) (s : List UInt8) : wfV (getS L (s, (i : Int))) ∧ (getS L (s, (i : Int))).length ≤ 17 * k := by
  unfold getS
  cases hf : L.find? fun e => decide (e.1 = (s, (i : Int))) with
  | none => exact ⟨wfV_nil, Nat.zero_le _⟩
  | some e =>
    have h1 := List.mem_of_find?_eq_some hf
    have h2 := List.find?_some hf
    rw [decide_eq_true_eq] at h2
    exact ⟨(h.vs e h1).1, (h.vs e h1).2.2 (by rw [h2]; exact Int.le_refl _)⟩
theorem BndI.put {k i : Nat} {L : List Su} (h : BndI k i L) {s : List UInt8} (hs : s.length ≤ 100000) {v : List Ent} (hv : wfV v) (hl : v.length ≤ 17 * (k + 1)) : BndI k (i + 1) (putS L (s, (i : Int)) v) := by
  refine ⟨?_, fun e he => ?_, fun e he => ?_⟩
  · unfold putS
    rw [List.length_append, List.length_singleton]
    have := List.length_filter_le (fun e : Su => decide (e.1 ≠ (s, (i : Int)))) L
    have := h.len
    omega
  · rcases List.mem_append.1 he with he | he
    · exact h.sp e (List.mem_filter.1 he).1
    · cases List.mem_singleton.1 he; exact hs
  · rcases List.mem_append.1 he with he | he
    · have h1 := h.vs e (List.mem_filter.1 he).1
      exact ⟨h1.1, h1.2.1, fun hi => h1.2.2 (by omega)⟩
    · cases List.mem_singleton.1 he
      exact ⟨hv, hl, fun hi => absurd hi (by simp only; omega)⟩
theorem put_step {A : World → Prop} {v5 r u : Value} {ps5 : List Pu} {l5 lu lr : Hp} {es : List Ent} {b : Bk} {e1 e2 : TypeId} (F : ∀ w, A w → Lies w l5 → SumAt w v5 ps5) (hu : RowB e1 3 u lu es.length (vcells es)) (hr : RowB e2 3 r lr (putP ps5 b u es).length ((putP ps5 b u es).flatMap cellsU)) :
    ∀ w, A w → Lies w (lr ++ (lu ++ l5)) → SumAt w r (putP ps5 b u es) := fun w hA hl => by
  have h5 := F w hA (hl.sub fun x hx => List.mem_append_right _ (List.mem_append_right _ hx))
  have h6 : VecAt w u es := old_lies (hl.sub fun x hx => List.mem_append_right _ (List.mem_append_left _ hx)) hu
  refine ⟨old_lies (hl.sub fun x hx => List.mem_append_left _ hx) hr, fun p hp => ?_⟩
  rcases List.mem_append.1 hp with hp | hp
  · exact h5.2 p (List.mem_filter.1 hp).1
  · cases List.mem_singleton.1 hp; exact h6
set_option maxHeartbeats 16000000 in
theorem rmoveS_ok {w : World} {vs v vo : Value} {ss : List Sc} {ps : List Pu} {o : Ob} {k : Nat} (hs : ScsAt w vs ss) (hws : ∀ s ∈ ss, wfP s.2) (hsl : ss.length ≤ 20) (h : SumAt w v ps) (hb : BndU k (sums ps)) (hk : k ≤ 1000) (ho : wfO o) (hr0 : ResAt w vo o.rs) (less : Bool) :
    Calls Tryz.prog 38 #[vs, v, OV o vo, .bool less] w fun e w' => ∃ r, e = .returned (.tuple #[r, I (moveS (scT ss) (sums ps) o less).2]) ∧ NewD (fun r l => ∃ ps', sums ps' = (moveS (scT ss) (sums ps) o less).1 ∧ ∀ w'', SumAt w'' v ps → Lies w'' l → SumAt w'' r ps') w w' r := by
  have hpl : ps.length ≤ 100000 := by have h1 := hb.len; rw [List.length_map] at h1; omega
  obtain ⟨cw, cl⟩ := charge_wf ho
  have hch := fun w' (hb : Below w.heap.size w w') => rcharge_ok o vo ho w' (hr0.below hb)
  obtain ⟨k1, s1, n1, ver, c1, tm, bs, rs⟩ := o
  obtain ⟨aS, cS, rfl, hat⟩ := OldRow.cells cellsSc_len hs.1
  refine calls2 (args := [.slice aS ss.length cS, v, Ojt.OC k1 s1 n1 ver c1 tm bs vo, .bool less]) Tryz.func38 rfl rfl rfl rfl ?_
  obtain ⟨M, hM⟩ : ∃ M, moveS (scT ss) (sums ps) ⟨k1, s1, n1, ver, c1, tm, bs, rs⟩ less = M := ⟨_, rfl⟩
  rw [hM]
  unfold moveS at hM
  have hsp : s1.length ≤ 100000 := ho.2.1
  generalize chargeO ⟨k1, s1, n1, ver, c1, tm, bs, rs⟩ = C at hch cw cl hM
  obtain ⟨c, ce⟩ := C
  simp only at hch cw cl hM
  by_cases h0 : ce ≠ 0
  · rw [if_pos h0] at hM
    subst hM
    have b0 : (ce != 0) = true := bne_iff_ne.2 h0
    repeat' (first | refine aw_seq ?_ | refine zz ?_ | refine zon fun _ => ?_ | refine zoa fun vr lr hr => ?_ | (apply ao_callr2; exact wants_a; (exact oc_func rfl); (exact rfl); (first | exact fun w hw => hch w hw.below); intro vr lr hr) | refine zoS (fun _ => ?_) (fun _ => ?_) | refine zqS (fun _ => ?_) (fun _ => ?_) | refine zwS (fun _ => ?_) (fun _ => ?_))
    exact fun w' hw => ⟨_, rfl, hw.toD rfl (l := []) (R := _) (List.Perm.refl _) ⟨ps, rfl, fun w'' h _ => h⟩⟩
  · rw [if_neg h0] at hM
    have h0 : ce = 0 := Classical.not_not.1 h0
    subst h0
    generalize hGd : moveG ⟨k1, s1, n1, ver, c1, tm, bs, rs⟩ c less 0 (scT ss) (sums ps) = G at hM
    repeat' (first | refine aw_seq ?_ | refine zz ?_ | refine zon fun _ => ?_ | refine zoa fun vr lr hr => ?_ | (apply ao_callr2; exact wants_a; (exact oc_func rfl); (exact rfl); (first | exact fun w hw => hch w hw.below); intro vr lr hr) | refine zoS (fun _ => ?_) (fun _ => ?_) | refine zqS (fun _ => ?_) (fun _ => ?_) | refine zwS (fun _ => ?_) (fun _ => ?_))
    revert vr lr hr
    intro vc lc rc
    rename_i b6
    refine aw_for (t0 := [(0, .slice aS ss.length cS), (1, v), (3, .bool less), (6, .pointer (some ⟨b6, 0, none⟩)), (10, vc), (12, v), (13, I (0 : Nat))]) (fun q t H => ∃ (i : Nat) (v5 : Value) (ps5 : List Pu) (l5 : Hp), q = ss.length - i ∧ i ≤ ss.length ∧ moveG ⟨k1, s1, n1, ver, c1, tm, bs, rs⟩ c less i (scT (ss.drop i)) (sums ps5) = G ∧ BndI k i (sums ps5) ∧ (∀ w'', SumAt w'' v ps → Lies w'' l5 → SumAt w'' v5 ps5) ∧
        t = [(0, .slice aS ss.length cS), (1, v), (3, .bool less), (6, .pointer (some ⟨b6, 0, none⟩)), (10, vc), (12, v5), (13, I i)] ∧ H = l5 ++ (lc ++ [(b6, .cells #[S k1, S s1, S n1, I ver, S c1, .bool tm, .bool bs, vo] 45 (0, 0))]))
      ⟨0, v, ps, [], rfl, by omega, hGd, hb.start, fun w'' h _ => h, rfl, rfl⟩ (by repeat (first | exact sub_nil | refine sub_cons rfl ?_)) ?_
    clear hch
    rintro q t H ⟨i, v5, ps5, l5, rfl, hi, hG, hB, hF, rfl, rfl⟩
    by_cases hlt : i < ss.length
    · obtain ⟨⟨u, sc⟩, he⟩ := getP hlt
      have hms := List.mem_of_getElem? he
      obtain ⟨g, o1, rfl, hg, hc⟩ := hat i _ (i : Int) he rfl
      have cU : w.cell? ⟨g, o1 + (i : Int).toNat * 1, none⟩ = some u := hc 0 _ rfl
      have hmt := fun w' (hb : Below w.heap.size w w') => rmatch_ok u sc k1 s1 n1 ver c1 tm bs vo (hws _ hms) w' ((hs.2 _ hms).below hb)
      have hdr : ss.drop i = (u, sc) :: ss.drop (i + 1) := by
        have := List.getElem?_eq_some_iff.1 he
        rw [List.drop_eq_getElem_cons hlt, this.2]
      rw [hdr] at hG
      unfold scT at hG
      rw [List.map_cons] at hG
      unfold moveG at hG
      simp only at hG
      cases hmv : matchS (trms sc) c1 tm bs
      · rw [hmv] at hmt hG
        rw [if_pos rfl] at hG
        repeat' (first | (apply ao_nilh; exact hsub_a) | apply ao_nil | apply aq_nil | apply ah_end | ((first | apply ao_val | apply aq_val | (apply ah_take; (exact rfl))); exact wants_a; exact ov_a; (exact rfl)) | ((first | apply ao_skip | apply aq_skip | (apply ah_skip; (exact rfl))); exact nots_a; (exact rfl)) | (refine ao_is ?_; first | (apply ao_new; exact wants_a; exact on_a; (exact rfl); intro _) | (apply ao_store; exact wants_a; exact ow_a; exact upd_a) | (apply ao_valw; exact wants_a; exact ox_a; (exact rfl); exact upd_a) | (apply ao_skip0; exact nots_a) | (apply ao_append; exact wants_a; (exact rfl); assumption; (exact rfl); exact cut_a; exact has_a; (exact rfl); (exact rfl); omega; omega; omega; (exact rfl); intro vr lr hr)) | ((first | apply ao_call | apply aq_call); exact wants_a; (first | exact oc_func rfl | exact oc_clos rfl rfl | exact oc_bnd rfl rfl); (exact rfl); (first | exact fun w hw => hmt w hw.below)) | (apply ah_one; (exact rfl)) | (apply ah_two; (exact rfl); (exact rfl)) | (apply ah_three; (exact rfl); (exact rfl); (exact rfl)) | (refine aw_is ?_; first | (apply aw_held (id := 8) (pl := (.t 0 (.t 1 (.t 2 (.t 3 (.t 4 (.o 5 (.t 6 .e)))))))); (kernel_rfl); (kernel_rfl); (kernel_rfl); (solve | (exact List.Sublist.refl _))) | refine aw_seq ?_ | refine aw_block ?_ | refine aw_region ?_ | refine aw_skip ?_ | refine aw_exit ?_ | refine aw_ret ?_ | refine aw_label ?_ | refine aw_scope ?_ | refine aw_cond_t rfl (by with_reducible rfl) ?_ | refine aw_cond_f rfl (by with_reducible rfl) ?_ | refine aw_draw (by kernel_rfl) (by kernel_rfl) ?_) | (first | (refine ah_is ?_; (fail_if_success first | refine ah_glit (b := true) rfl rfl rfl (by with_reducible rfl) ?_ | refine ah_glit (b := false) rfl rfl rfl (by with_reducible rfl) ?_); apply ah_gt; (exact rfl); (exact rfl); (exact rfl); exact t_a) | ((refine ao_is ?_; (fail_if_success first | refine ao_glit (b := true) rfl rfl (by with_reducible rfl) ?_ | refine ao_glit (b := false) rfl rfl (by with_reducible rfl) ?_)); apply ao_gt; (exact rfl); (exact rfl); exact t_a) | ((refine aq_is ?_; (fail_if_success first | refine aq_glit (b := true) rfl rfl (by with_reducible rfl) ?_ | refine aq_glit (b := false) rfl rfl (by with_reducible rfl) ?_)); apply aq_gt; (exact rfl); (exact rfl); exact t_a) | (apply aw_ct; (exact rfl); exact t_a)) | (first | (refine ah_is ?_; (fail_if_success first | refine ah_glit (b := true) rfl rfl rfl (by with_reducible rfl) ?_ | refine ah_glit (b := false) rfl rfl rfl (by with_reducible rfl) ?_); apply ah_gf; (exact rfl); (exact rfl); (exact rfl); exact f_a) | ((refine ao_is ?_; (fail_if_success first | refine ao_glit (b := true) rfl rfl (by with_reducible rfl) ?_ | refine ao_glit (b := false) rfl rfl (by with_reducible rfl) ?_)); apply ao_gf; (exact rfl); (exact rfl); exact f_a) | ((refine aq_is ?_; (fail_if_success first | refine aq_glit (b := true) rfl rfl (by with_reducible rfl) ?_ | refine aq_glit (b := false) rfl rfl (by with_reducible rfl) ?_)); apply aq_gf; (exact rfl); (exact rfl); exact f_a) | (apply aw_cf; (exact rfl); exact f_a)) | refine at_normal ?_ | refine at_exit ?_ | refine at_ret ?_ | refine ib_normal ?_ | refine ib_exit ?_ | refine ib_other ?_ | refine ib_ret ?_ | refine lq_exit ?_ | refine lq_ret ?_ | refine ci_ret ?_ | refine ci_exit ?_ | refine r1_ret rfl ?_ | refine r1_normal rfl ?_ | refine r2_ret rfl rfl ?_ | refine r2_normal rfl rfl ?_ | refine r3_ret rfl rfl rfl ?_ | refine r3_normal rfl rfl rfl ?_ | refine ng_normal ?_ | refine ng_exit ?_ | refine ng_ret ?_ | (apply rt_ret; (exact rfl); (exact rfl); (exact rfl); exact has_a; exact has_a; (exact rfl); (exact rfl)) | (apply rc1_ret; (exact rfl); exact has_a; (exact rfl)) | (apply rc2_ret; (exact rfl); exact has_a; (exact rfl); (exact rfl)) | (refine ao_is ?_; (fail_if_success first | refine ao_glit (b := true) rfl rfl (by with_reducible rfl) ?_ | refine ao_glit (b := false) rfl rfl (by with_reducible rfl) ?_); refine ao_gbool rfl rfl (fun _ => ?_) (fun _ => ?_)) | (refine aq_is ?_; (fail_if_success first | refine aq_glit (b := true) rfl rfl (by with_reducible rfl) ?_ | refine aq_glit (b := false) rfl rfl (by with_reducible rfl) ?_); refine aq_gbool rfl rfl (fun _ => ?_) (fun _ => ?_)) | (refine aw_is ?_; refine aw_cond rfl (fun _ => ?_) (fun _ => ?_)))
        exact lq_normal' ⟨i + 1, v5, ps5, l5, rfl, by omega, hG, hB.skip, hF, rfl, rfl⟩ (by omega) (by repeat (first | exact sub_nil | refine sub_cons rfl ?_)) hsub_a
      · rw [hmv] at hmt hG
        rw [if_neg (by decide)] at hG
        have w5 := hB.get s1
        have hl5 : ps5.length ≤ 100000 := by have h1 := hB.len; rw [List.length_map] at h1; omega
        obtain ⟨xw, xl⟩ := wf_comb (less := less) w5.1 cw (by omega) (by omega)
        have hget := fun w' (h : SumAt w' v5 ps5) => rgetS_ok h hl5 (s1, (i : Int))
        have hput := fun u es w' (h : SumAt w' v5 ps5) (hu : VecAt w' u es) => rputS_ok h hl5 (s1, (i : Int)) hu
        have hadd := fun w' (h : SumAt w' v5 ps5) (hcv : VecAt w' vc c) => vadd_ok _ _ (getS (sums ps5) (s1, (i : Int))) c w5.1 cw (by omega) (by omega) w' (h.get _) hcv
        have hsub := fun w' (h : SumAt w' v5 ps5) (hcv : VecAt w' vc c) => vsub_ok _ _ (getS (sums ps5) (s1, (i : Int))) c w5.1 cw (by omega) (by omega) w' (h.get _) hcv
        cases less
        · generalize hX : combV false (getS (sums ps5) (s1, (i : Int))) c = X at hG xw xl hadd
          obtain ⟨x, xe⟩ := X
          simp only at hG xw xl hadd
          by_cases hxe : xe ≠ 0
          · rw [if_pos hxe] at hG
            subst hG
            rw [if_pos hxe] at hM
            subst hM
            have b1 : (xe != 0) = true := bne_iff_ne.2 hxe
            repeat' (first | (apply ao_nilh; exact hsub_a) | apply ao_nil | apply aq_nil | apply ah_end | ((first | apply ao_val | apply aq_val | (apply ah_take; (exact rfl))); exact wants_a; exact ov_a; (exact rfl)) | ((first | apply ao_skip | apply aq_skip | (apply ah_skip; (exact rfl))); exact nots_a; (exact rfl)) | (refine ao_is ?_; first | (apply ao_new; exact wants_a; exact on_a; (exact rfl); intro _) | (apply ao_store; exact wants_a; exact ow_a; exact upd_a) | (apply ao_valw; exact wants_a; exact ox_a; (exact rfl); exact upd_a) | (apply ao_skip0; exact nots_a) | (apply ao_append; exact wants_a; (exact rfl); assumption; (exact rfl); exact cut_a; exact has_a; (exact rfl); (exact rfl); omega; omega; omega; (exact rfl); intro vr lr hr)) | ((first | apply ao_call | apply aq_call); exact wants_a; (first | exact oc_func rfl | exact oc_clos rfl rfl | exact oc_bnd rfl rfl); (exact rfl); (first | exact fun w hw => hmt w hw.below | exact fun w hw => hget w (hF _ (h.below hw.below) (lies_of hw (l := l5) cut_a)))) | (apply ao_callr2; exact wants_a; (exact oc_func rfl); (exact rfl); (first | exact fun w hw => hadd w (hF _ (h.below hw.below) (lies_of hw (l := l5) cut_a)) (hw.oldr rc cut_a)); intro vr lr hr) | (apply ah_one; (exact rfl)) | (apply ah_two; (exact rfl); (exact rfl)) | (apply ah_three; (exact rfl); (exact rfl); (exact rfl)) | (refine aw_is ?_; first | (apply aw_held (id := 8) (pl := (.t 0 (.t 1 (.t 2 (.t 3 (.t 4 (.o 5 (.t 6 .e)))))))); (kernel_rfl); (kernel_rfl); (kernel_rfl); (solve | (exact List.Sublist.refl _))) | refine aw_seq ?_ | refine aw_block ?_ | refine aw_region ?_ | refine aw_skip ?_ | refine aw_exit ?_ | refine aw_ret ?_ | refine aw_label ?_ | refine aw_scope ?_ | refine aw_cond_t rfl (by with_reducible rfl) ?_ | refine aw_cond_f rfl (by with_reducible rfl) ?_ | refine aw_draw (by kernel_rfl) (by kernel_rfl) ?_) | (first | (refine ah_is ?_; (fail_if_success first | refine ah_glit (b := true) rfl rfl rfl (by with_reducible rfl) ?_ | refine ah_glit (b := false) rfl rfl rfl (by with_reducible rfl) ?_); apply ah_gt; (exact rfl); (exact rfl); (exact rfl); exact t_a) | ((refine ao_is ?_; (fail_if_success first | refine ao_glit (b := true) rfl rfl (by with_reducible rfl) ?_ | refine ao_glit (b := false) rfl rfl (by with_reducible rfl) ?_)); apply ao_gt; (exact rfl); (exact rfl); exact t_a) | ((refine aq_is ?_; (fail_if_success first | refine aq_glit (b := true) rfl rfl (by with_reducible rfl) ?_ | refine aq_glit (b := false) rfl rfl (by with_reducible rfl) ?_)); apply aq_gt; (exact rfl); (exact rfl); exact t_a) | (apply aw_ct; (exact rfl); exact t_a)) | (first | (refine ah_is ?_; (fail_if_success first | refine ah_glit (b := true) rfl rfl rfl (by with_reducible rfl) ?_ | refine ah_glit (b := false) rfl rfl rfl (by with_reducible rfl) ?_); apply ah_gf; (exact rfl); (exact rfl); (exact rfl); exact f_a) | ((refine ao_is ?_; (fail_if_success first | refine ao_glit (b := true) rfl rfl (by with_reducible rfl) ?_ | refine ao_glit (b := false) rfl rfl (by with_reducible rfl) ?_)); apply ao_gf; (exact rfl); (exact rfl); exact f_a) | ((refine aq_is ?_; (fail_if_success first | refine aq_glit (b := true) rfl rfl (by with_reducible rfl) ?_ | refine aq_glit (b := false) rfl rfl (by with_reducible rfl) ?_)); apply aq_gf; (exact rfl); (exact rfl); exact f_a) | (apply aw_cf; (exact rfl); exact f_a)) | refine at_normal ?_ | refine at_exit ?_ | refine at_ret ?_ | refine ib_normal ?_ | refine ib_exit ?_ | refine ib_other ?_ | refine ib_ret ?_ | refine lq_exit ?_ | refine lq_ret ?_ | refine ci_ret ?_ | refine ci_exit ?_ | refine r1_ret rfl ?_ | refine r1_normal rfl ?_ | refine r2_ret rfl rfl ?_ | refine r2_normal rfl rfl ?_ | refine r3_ret rfl rfl rfl ?_ | refine r3_normal rfl rfl rfl ?_ | refine ng_normal ?_ | refine ng_exit ?_ | refine ng_ret ?_ | (apply rt_ret; (exact rfl); (exact rfl); (exact rfl); exact has_a; exact has_a; (exact rfl); (exact rfl)) | (apply rc1_ret; (exact rfl); exact has_a; (exact rfl)) | (apply rc2_ret; (exact rfl); exact has_a; (exact rfl); (exact rfl)) | (refine ao_is ?_; (fail_if_success first | refine ao_glit (b := true) rfl rfl (by with_reducible rfl) ?_ | refine ao_glit (b := false) rfl rfl (by with_reducible rfl) ?_); refine ao_gbool rfl rfl (fun _ => ?_) (fun _ => ?_)) | (refine aq_is ?_; (fail_if_success first | refine aq_glit (b := true) rfl rfl (by with_reducible rfl) ?_ | refine aq_glit (b := false) rfl rfl (by with_reducible rfl) ?_); refine aq_gbool rfl rfl (fun _ => ?_) (fun _ => ?_)) | (refine aw_is ?_; refine aw_cond rfl (fun _ => ?_) (fun _ => ?_)))
            exact fun w' hw => ⟨_, rfl, hw.toD rfl (l := []) (R := _) (List.Perm.refl _) ⟨ps, rfl, fun w'' h _ => h⟩⟩
          · rw [if_neg hxe] at hG
            have hxe : xe = 0 := Classical.not_not.1 hxe
            subst hxe
            repeat' (first | (apply ao_nilh; exact hsub_a) | apply ao_nil | apply aq_nil | apply ah_end | ((first | apply ao_val | apply aq_val | (apply ah_take; (exact rfl))); exact wants_a; exact ov_a; (exact rfl)) | ((first | apply ao_skip | apply aq_skip | (apply ah_skip; (exact rfl))); exact nots_a; (exact rfl)) | (refine ao_is ?_; first | (apply ao_new; exact wants_a; exact on_a; (exact rfl); intro _) | (apply ao_store; exact wants_a; exact ow_a; exact upd_a) | (apply ao_valw; exact wants_a; exact ox_a; (exact rfl); exact upd_a) | (apply ao_skip0; exact nots_a) | (apply ao_append; exact wants_a; (exact rfl); assumption; (exact rfl); exact cut_a; exact has_a; (exact rfl); (exact rfl); omega; omega; omega; (exact rfl); intro vr lr hr)) | ((first | apply ao_call | apply aq_call); exact wants_a; (first | exact oc_func rfl | exact oc_clos rfl rfl | exact oc_bnd rfl rfl); (exact rfl); (first | exact fun w hw => hmt w hw.below | exact fun w hw => hget w (hF _ (h.below hw.below) (lies_of hw (l := l5) cut_a)))) | (apply ao_callr2; exact wants_a; (exact oc_func rfl); (exact rfl); (first | exact fun w hw => hadd w (hF _ (h.below hw.below) (lies_of hw (l := l5) cut_a)) (hw.oldr rc cut_a)); intro vr lr hr) | (apply ah_one; (exact rfl)) | (apply ah_two; (exact rfl); (exact rfl)) | (apply ah_three; (exact rfl); (exact rfl); (exact rfl)) | (refine aw_is ?_; first | (apply aw_held (id := 8) (pl := (.t 0 (.t 1 (.t 2 (.t 3 (.t 4 (.o 5 (.t 6 .e)))))))); (kernel_rfl); (kernel_rfl); (kernel_rfl); (solve | (exact List.Sublist.refl _))) | refine aw_seq ?_ | refine aw_block ?_ | refine aw_region ?_ | refine aw_skip ?_ | refine aw_exit ?_ | refine aw_ret ?_ | refine aw_label ?_ | refine aw_scope ?_ | refine aw_cond_t rfl (by with_reducible rfl) ?_ | refine aw_cond_f rfl (by with_reducible rfl) ?_ | refine aw_draw (by kernel_rfl) (by kernel_rfl) ?_) | (first | (refine ah_is ?_; (fail_if_success first | refine ah_glit (b := true) rfl rfl rfl (by with_reducible rfl) ?_ | refine ah_glit (b := false) rfl rfl rfl (by with_reducible rfl) ?_); apply ah_gt; (exact rfl); (exact rfl); (exact rfl); exact t_a) | ((refine ao_is ?_; (fail_if_success first | refine ao_glit (b := true) rfl rfl (by with_reducible rfl) ?_ | refine ao_glit (b := false) rfl rfl (by with_reducible rfl) ?_)); apply ao_gt; (exact rfl); (exact rfl); exact t_a) | ((refine aq_is ?_; (fail_if_success first | refine aq_glit (b := true) rfl rfl (by with_reducible rfl) ?_ | refine aq_glit (b := false) rfl rfl (by with_reducible rfl) ?_)); apply aq_gt; (exact rfl); (exact rfl); exact t_a) | (apply aw_ct; (exact rfl); exact t_a)) | (first | (refine ah_is ?_; (fail_if_success first | refine ah_glit (b := true) rfl rfl rfl (by with_reducible rfl) ?_ | refine ah_glit (b := false) rfl rfl rfl (by with_reducible rfl) ?_); apply ah_gf; (exact rfl); (exact rfl); (exact rfl); exact f_a) | ((refine ao_is ?_; (fail_if_success first | refine ao_glit (b := true) rfl rfl (by with_reducible rfl) ?_ | refine ao_glit (b := false) rfl rfl (by with_reducible rfl) ?_)); apply ao_gf; (exact rfl); (exact rfl); exact f_a) | ((refine aq_is ?_; (fail_if_success first | refine aq_glit (b := true) rfl rfl (by with_reducible rfl) ?_ | refine aq_glit (b := false) rfl rfl (by with_reducible rfl) ?_)); apply aq_gf; (exact rfl); (exact rfl); exact f_a) | (apply aw_cf; (exact rfl); exact f_a)) | refine at_normal ?_ | refine at_exit ?_ | refine at_ret ?_ | refine ib_normal ?_ | refine ib_exit ?_ | refine ib_other ?_ | refine ib_ret ?_ | refine lq_exit ?_ | refine lq_ret ?_ | refine ci_ret ?_ | refine ci_exit ?_ | refine r1_ret rfl ?_ | refine r1_normal rfl ?_ | refine r2_ret rfl rfl ?_ | refine r2_normal rfl rfl ?_ | refine r3_ret rfl rfl rfl ?_ | refine r3_normal rfl rfl rfl ?_ | refine ng_normal ?_ | refine ng_exit ?_ | refine ng_ret ?_ | (apply rt_ret; (exact rfl); (exact rfl); (exact rfl); exact has_a; exact has_a; (exact rfl); (exact rfl)) | (apply rc1_ret; (exact rfl); exact has_a; (exact rfl)) | (apply rc2_ret; (exact rfl); exact has_a; (exact rfl); (exact rfl)) | (refine ao_is ?_; (fail_if_success first | refine ao_glit (b := true) rfl rfl (by with_reducible rfl) ?_ | refine ao_glit (b := false) rfl rfl (by with_reducible rfl) ?_); refine ao_gbool rfl rfl (fun _ => ?_) (fun _ => ?_)) | (refine aq_is ?_; (fail_if_success first | refine aq_glit (b := true) rfl rfl (by with_reducible rfl) ?_ | refine aq_glit (b := false) rfl rfl (by with_reducible rfl) ?_); refine aq_gbool rfl rfl (fun _ => ?_) (fun _ => ?_)) | (refine aw_is ?_; refine aw_cond rfl (fun _ => ?_) (fun _ => ?_)))
            revert vr lr hr
            intro vx lx rx
            repeat' (first | refine aw_seq ?_ | refine zz ?_ | refine zon fun _ => ?_ | refine zoa fun vr lr hr => ?_ | (apply ao_callr; exact wants_a; (exact oc_func rfl); (exact rfl); (first | exact fun w hw => hput _ x w (hF _ (h.below hw.below) (lies_of hw (l := l5) cut_a)) (hw.oldr rx cut_a)); intro vr lr hr) | refine zoS (fun _ => ?_) (fun _ => ?_) | refine zqS (fun _ => ?_) (fun _ => ?_) | refine zwS (fun _ => ?_) (fun _ => ?_))
            exact lq_normal' (H' := (lr ++ (lx ++ l5)) ++ (lc ++ [(b6, .cells #[S k1, S s1, S n1, I ver, S c1, .bool tm, .bool bs, vo] 45 (0, 0))])) ⟨i + 1, vr, putP ps5 (s1, (i : Int)) vx x, lr ++ (lx ++ l5), rfl, by omega, by rw [sums_put]; exact hG, by rw [sums_put]; exact hB.put hsp xw (by omega), put_step hF rx hr, rfl, rfl⟩ (by omega) (by repeat (first | exact sub_nil | refine sub_cons rfl ?_)) (by rw [List.append_assoc, List.append_assoc]; exact hsub_a)
        · generalize hX : combV true (getS (sums ps5) (s1, (i : Int))) c = X at hG xw xl hsub
          obtain ⟨x, xe⟩ := X
          simp only at hG xw xl hsub
          by_cases hxe : xe ≠ 0
          · rw [if_pos hxe] at hG
            subst hG
            rw [if_pos hxe] at hM
            subst hM
            have b1 : (xe != 0) = true := bne_iff_ne.2 hxe
            repeat' (first | (apply ao_nilh; exact hsub_a) | apply ao_nil | apply aq_nil | apply ah_end | ((first | apply ao_val | apply aq_val | (apply ah_take; (exact rfl))); exact wants_a; exact ov_a; (exact rfl)) | ((first | apply ao_skip | apply aq_skip | (apply ah_skip; (exact rfl))); exact nots_a; (exact rfl)) | (refine ao_is ?_; first | (apply ao_new; exact wants_a; exact on_a; (exact rfl); intro _) | (apply ao_store; exact wants_a; exact ow_a; exact upd_a) | (apply ao_valw; exact wants_a; exact ox_a; (exact rfl); exact upd_a) | (apply ao_skip0; exact nots_a) | (apply ao_append; exact wants_a; (exact rfl); assumption; (exact rfl); exact cut_a; exact has_a; (exact rfl); (exact rfl); omega; omega; omega; (exact rfl); intro vr lr hr)) | ((first | apply ao_call | apply aq_call); exact wants_a; (first | exact oc_func rfl | exact oc_clos rfl rfl | exact oc_bnd rfl rfl); (exact rfl); (first | exact fun w hw => hmt w hw.below | exact fun w hw => hget w (hF _ (h.below hw.below) (lies_of hw (l := l5) cut_a)))) | (apply ao_callr2; exact wants_a; (exact oc_func rfl); (exact rfl); (first | exact fun w hw => hadd w (hF _ (h.below hw.below) (lies_of hw (l := l5) cut_a)) (hw.oldr rc cut_a) | exact fun w hw => hsub w (hF _ (h.below hw.below) (lies_of hw (l := l5) cut_a)) (hw.oldr rc cut_a)); intro vr lr hr) | (apply ah_one; (exact rfl)) | (apply ah_two; (exact rfl); (exact rfl)) | (apply ah_three; (exact rfl); (exact rfl); (exact rfl)) | (refine aw_is ?_; first | (apply aw_held (id := 8) (pl := (.t 0 (.t 1 (.t 2 (.t 3 (.t 4 (.o 5 (.t 6 .e)))))))); (kernel_rfl); (kernel_rfl); (kernel_rfl); (solve | (exact List.Sublist.refl _))) | refine aw_seq ?_ | refine aw_block ?_ | refine aw_region ?_ | refine aw_skip ?_ | refine aw_exit ?_ | refine aw_ret ?_ | refine aw_label ?_ | refine aw_scope ?_ | refine aw_cond_t rfl (by with_reducible rfl) ?_ | refine aw_cond_f rfl (by with_reducible rfl) ?_ | refine aw_draw (by kernel_rfl) (by kernel_rfl) ?_) | (first | (refine ah_is ?_; (fail_if_success first | refine ah_glit (b := true) rfl rfl rfl (by with_reducible rfl) ?_ | refine ah_glit (b := false) rfl rfl rfl (by with_reducible rfl) ?_); apply ah_gt; (exact rfl); (exact rfl); (exact rfl); exact t_a) | ((refine ao_is ?_; (fail_if_success first | refine ao_glit (b := true) rfl rfl (by with_reducible rfl) ?_ | refine ao_glit (b := false) rfl rfl (by with_reducible rfl) ?_)); apply ao_gt; (exact rfl); (exact rfl); exact t_a) | ((refine aq_is ?_; (fail_if_success first | refine aq_glit (b := true) rfl rfl (by with_reducible rfl) ?_ | refine aq_glit (b := false) rfl rfl (by with_reducible rfl) ?_)); apply aq_gt; (exact rfl); (exact rfl); exact t_a) | (apply aw_ct; (exact rfl); exact t_a)) | (first | (refine ah_is ?_; (fail_if_success first | refine ah_glit (b := true) rfl rfl rfl (by with_reducible rfl) ?_ | refine ah_glit (b := false) rfl rfl rfl (by with_reducible rfl) ?_); apply ah_gf; (exact rfl); (exact rfl); (exact rfl); exact f_a) | ((refine ao_is ?_; (fail_if_success first | refine ao_glit (b := true) rfl rfl (by with_reducible rfl) ?_ | refine ao_glit (b := false) rfl rfl (by with_reducible rfl) ?_)); apply ao_gf; (exact rfl); (exact rfl); exact f_a) | ((refine aq_is ?_; (fail_if_success first | refine aq_glit (b := true) rfl rfl (by with_reducible rfl) ?_ | refine aq_glit (b := false) rfl rfl (by with_reducible rfl) ?_)); apply aq_gf; (exact rfl); (exact rfl); exact f_a) | (apply aw_cf; (exact rfl); exact f_a)) | refine at_normal ?_ | refine at_exit ?_ | refine at_ret ?_ | refine ib_normal ?_ | refine ib_exit ?_ | refine ib_other ?_ | refine ib_ret ?_ | refine lq_exit ?_ | refine lq_ret ?_ | refine ci_ret ?_ | refine ci_exit ?_ | refine r1_ret rfl ?_ | refine r1_normal rfl ?_ | refine r2_ret rfl rfl ?_ | refine r2_normal rfl rfl ?_ | refine r3_ret rfl rfl rfl ?_ | refine r3_normal rfl rfl rfl ?_ | refine ng_normal ?_ | refine ng_exit ?_ | refine ng_ret ?_ | (apply rt_ret; (exact rfl); (exact rfl); (exact rfl); exact has_a; exact has_a; (exact rfl); (exact rfl)) | (apply rc1_ret; (exact rfl); exact has_a; (exact rfl)) | (apply rc2_ret; (exact rfl); exact has_a; (exact rfl); (exact rfl)) | (refine ao_is ?_; (fail_if_success first | refine ao_glit (b := true) rfl rfl (by with_reducible rfl) ?_ | refine ao_glit (b := false) rfl rfl (by with_reducible rfl) ?_); refine ao_gbool rfl rfl (fun _ => ?_) (fun _ => ?_)) | (refine aq_is ?_; (fail_if_success first | refine aq_glit (b := true) rfl rfl (by with_reducible rfl) ?_ | refine aq_glit (b := false) rfl rfl (by with_reducible rfl) ?_); refine aq_gbool rfl rfl (fun _ => ?_) (fun _ => ?_)) | (refine aw_is ?_; refine aw_cond rfl (fun _ => ?_) (fun _ => ?_)))
            exact fun w' hw => ⟨_, rfl, hw.toD rfl (l := []) (R := _) (List.Perm.refl _) ⟨ps, rfl, fun w'' h _ => h⟩⟩
          · rw [if_neg hxe] at hG
            have hxe : xe = 0 := Classical.not_not.1 hxe
            subst hxe
            repeat' (first | (apply ao_nilh; exact hsub_a) | apply ao_nil | apply aq_nil | apply ah_end | ((first | apply ao_val | apply aq_val | (apply ah_take; (exact rfl))); exact wants_a; exact ov_a; (exact rfl)) | ((first | apply ao_skip | apply aq_skip | (apply ah_skip; (exact rfl))); exact nots_a; (exact rfl)) | (refine ao_is ?_; first | (apply ao_new; exact wants_a; exact on_a; (exact rfl); intro _) | (apply ao_store; exact wants_a; exact ow_a; exact upd_a) | (apply ao_valw; exact wants_a; exact ox_a; (exact rfl); exact upd_a) | (apply ao_skip0; exact nots_a) | (apply ao_append; exact wants_a; (exact rfl); assumption; (exact rfl); exact cut_a; exact has_a; (exact rfl); (exact rfl); omega; omega; omega; (exact rfl); intro vr lr hr)) | ((first | apply ao_call | apply aq_call); exact wants_a; (first | exact oc_func rfl | exact oc_clos rfl rfl | exact oc_bnd rfl rfl); (exact rfl); (first | exact fun w hw => hmt w hw.below | exact fun w hw => hget w (hF _ (h.below hw.below) (lies_of hw (l := l5) cut_a)))) | (apply ao_callr2; exact wants_a; (exact oc_func rfl); (exact rfl); (first | exact fun w hw => hadd w (hF _ (h.below hw.below) (lies_of hw (l := l5) cut_a)) (hw.oldr rc cut_a) | exact fun w hw => hsub w (hF _ (h.below hw.below) (lies_of hw (l := l5) cut_a)) (hw.oldr rc cut_a)); intro vr lr hr) | (apply ah_one; (exact rfl)) | (apply ah_two; (exact rfl); (exact rfl)) | (apply ah_three; (exact rfl); (exact rfl); (exact rfl)) | (refine aw_is ?_; first | (apply aw_held (id := 8) (pl := (.t 0 (.t 1 (.t 2 (.t 3 (.t 4 (.o 5 (.t 6 .e)))))))); (kernel_rfl); (kernel_rfl); (kernel_rfl); (solve | (exact List.Sublist.refl _))) | refine aw_seq ?_ | refine aw_block ?_ | refine aw_region ?_ | refine aw_skip ?_ | refine aw_exit ?_ | refine aw_ret ?_ | refine aw_label ?_ | refine aw_scope ?_ | refine aw_cond_t rfl (by with_reducible rfl) ?_ | refine aw_cond_f rfl (by with_reducible rfl) ?_ | refine aw_draw (by kernel_rfl) (by kernel_rfl) ?_) | (first | (refine ah_is ?_; (fail_if_success first | refine ah_glit (b := true) rfl rfl rfl (by with_reducible rfl) ?_ | refine ah_glit (b := false) rfl rfl rfl (by with_reducible rfl) ?_); apply ah_gt; (exact rfl); (exact rfl); (exact rfl); exact t_a) | ((refine ao_is ?_; (fail_if_success first | refine ao_glit (b := true) rfl rfl (by with_reducible rfl) ?_ | refine ao_glit (b := false) rfl rfl (by with_reducible rfl) ?_)); apply ao_gt; (exact rfl); (exact rfl); exact t_a) | ((refine aq_is ?_; (fail_if_success first | refine aq_glit (b := true) rfl rfl (by with_reducible rfl) ?_ | refine aq_glit (b := false) rfl rfl (by with_reducible rfl) ?_)); apply aq_gt; (exact rfl); (exact rfl); exact t_a) | (apply aw_ct; (exact rfl); exact t_a)) | (first | (refine ah_is ?_; (fail_if_success first | refine ah_glit (b := true) rfl rfl rfl (by with_reducible rfl) ?_ | refine ah_glit (b := false) rfl rfl rfl (by with_reducible rfl) ?_); apply ah_gf; (exact rfl); (exact rfl); (exact rfl); exact f_a) | ((refine ao_is ?_; (fail_if_success first | refine ao_glit (b := true) rfl rfl (by with_reducible rfl) ?_ | refine ao_glit (b := false) rfl rfl (by with_reducible rfl) ?_)); apply ao_gf; (exact rfl); (exact rfl); exact f_a) | ((refine aq_is ?_; (fail_if_success first | refine aq_glit (b := true) rfl rfl (by with_reducible rfl) ?_ | refine aq_glit (b := false) rfl rfl (by with_reducible rfl) ?_)); apply aq_gf; (exact rfl); (exact rfl); exact f_a) | (apply aw_cf; (exact rfl); exact f_a)) | refine at_normal ?_ | refine at_exit ?_ | refine at_ret ?_ | refine ib_normal ?_ | refine ib_exit ?_ | refine ib_other ?_ | refine ib_ret ?_ | refine lq_exit ?_ | refine lq_ret ?_ | refine ci_ret ?_ | refine ci_exit ?_ | refine r1_ret rfl ?_ | refine r1_normal rfl ?_ | refine r2_ret rfl rfl ?_ | refine r2_normal rfl rfl ?_ | refine r3_ret rfl rfl rfl ?_ | refine r3_normal rfl rfl rfl ?_ | refine ng_normal ?_ | refine ng_exit ?_ | refine ng_ret ?_ | (apply rt_ret; (exact rfl); (exact rfl); (exact rfl); exact has_a; exact has_a; (exact rfl); (exact rfl)) | (apply rc1_ret; (exact rfl); exact has_a; (exact rfl)) | (apply rc2_ret; (exact rfl); exact has_a; (exact rfl); (exact rfl)) | (refine ao_is ?_; (fail_if_success first | refine ao_glit (b := true) rfl rfl (by with_reducible rfl) ?_ | refine ao_glit (b := false) rfl rfl (by with_reducible rfl) ?_); refine ao_gbool rfl rfl (fun _ => ?_) (fun _ => ?_)) | (refine aq_is ?_; (fail_if_success first | refine aq_glit (b := true) rfl rfl (by with_reducible rfl) ?_ | refine aq_glit (b := false) rfl rfl (by with_reducible rfl) ?_); refine aq_gbool rfl rfl (fun _ => ?_) (fun _ => ?_)) | (refine aw_is ?_; refine aw_cond rfl (fun _ => ?_) (fun _ => ?_)))
            revert vr lr hr
            intro vx lx rx
            repeat' (first | refine aw_seq ?_ | refine zz ?_ | refine zon fun _ => ?_ | refine zoa fun vr lr hr => ?_ | (apply ao_callr; exact wants_a; (exact oc_func rfl); (exact rfl); (first | exact fun w hw => hput _ x w (hF _ (h.below hw.below) (lies_of hw (l := l5) cut_a)) (hw.oldr rx cut_a)); intro vr lr hr) | refine zoS (fun _ => ?_) (fun _ => ?_) | refine zqS (fun _ => ?_) (fun _ => ?_) | refine zwS (fun _ => ?_) (fun _ => ?_))
            exact lq_normal' (H' := (lr ++ (lx ++ l5)) ++ (lc ++ [(b6, .cells #[S k1, S s1, S n1, I ver, S c1, .bool tm, .bool bs, vo] 45 (0, 0))])) ⟨i + 1, vr, putP ps5 (s1, (i : Int)) vx x, lr ++ (lx ++ l5), rfl, by omega, by rw [sums_put]; exact hG, by rw [sums_put]; exact hB.put hsp xw (by omega), put_step hF rx hr, rfl, rfl⟩ (by omega) (by repeat (first | exact sub_nil | refine sub_cons rfl ?_)) (by rw [List.append_assoc, List.append_assoc]; exact hsub_a)
    · obtain rfl : i = ss.length := by omega
      rw [List.drop_length] at hG
      simp only [scT, List.map_nil, moveG] at hG
      subst hG
      rw [if_neg (by simp)] at hM
      subst hM
      repeat' (first | refine aw_seq ?_ | refine zz ?_ | refine zon fun _ => ?_ | refine zoa fun vr lr hr => ?_ | refine zoS (fun _ => ?_) (fun _ => ?_) | refine zqS (fun _ => ?_) (fun _ => ?_) | refine zwS (fun _ => ?_) (fun _ => ?_))
      exact fun w' hw => ⟨_, rfl, hw.toD rfl (l := l5) (R := _) (List.Perm.refl _) ⟨ps5, rfl, hF⟩⟩
end Lct
end Go.Proofs.YtkjjlppfomidbaaGreat
/- Lcd: The document's answer for layer 13: Spaces, Right; conditions: at most 100,000 sums. -/
namespace Go.Proofs.YtkjjlppfomidbaaGreat
namespace Lct
open Go Go.RowKit Sx Vec Ojt Scp
attribute [local irreducible] Go.Calls
def rightScs (scs : List (List Trm)) : Bool := scs.all rightS && decide (scs.length ≤ 8)
set_option maxHeartbeats 8000000 in
theorem rrightS_ok {w : World} {v : Value} {ss : List Sc} (h : ScsAt w v ss) (hl : ss.length ≤ 1000) (hws : ∀ s ∈ ss, wfP s.2) :
    Calls Tryz.prog 10 #[v] w fun e w' => e = .returned (.bool (rightScs (scT ss))) ∧ Below w.heap.size w w' := by
  obtain ⟨a, cp, rfl, hat⟩ := OldRow.cells cellsSc_len h.1
  refine calls1 (args := [.slice a ss.length cp]) Tryz.func10 rfl rfl rfl rfl ?_
  repeat' (first | refine aw_seq ?_ | refine zz ?_ | refine zon fun _ => ?_ | refine zoa fun vr lr hr => ?_ | refine zoS (fun _ => ?_) (fun _ => ?_) | refine zqS (fun _ => ?_) (fun _ => ?_) | refine zwS (fun _ => ?_) (fun _ => ?_))
  refine aw_for (t0 := [(0, .slice a ss.length cp), (3, I (0 : Nat))]) (fun q t H => ∃ i : Nat, q = ss.length - i ∧ i ≤ ss.length ∧ (∀ (j : Nat) (s : Sc), j < i → ss[j]? = some s → rightS (trms s.2) = true) ∧ t = [(0, .slice a ss.length cp), (3, I i)] ∧ H = []) ⟨0, rfl, by omega, fun j p hj => by omega, rfl, rfl⟩ (by repeat (first | exact sub_nil | refine sub_cons rfl ?_)) ?_
  rintro q t H ⟨i, rfl, hi, hall, rfl, rfl⟩
  by_cases hlt : i < ss.length
  · obtain ⟨⟨u, sc⟩, he⟩ := getP hlt
    have hms := List.mem_of_getElem? he
    obtain ⟨g, o1, rfl, hg, hc⟩ := hat i _ (i : Int) he rfl
    have cU : w.cell? ⟨g, o1 + (i : Int).toNat * 1, none⟩ = some u := hc 0 _ rfl
    have hrt := fun w' (hb : Below w.heap.size w w') => Scp.rright_ok u sc (hws _ hms) w' ((h.2 _ hms).below hb)
    cases hr : rightS (trms sc)
    · rw [hr] at hrt
      rw [show rightScs (scT ss) = false by
        unfold rightScs
        rw [show (scT ss).all rightS = false from List.all_eq_false.2 ⟨trms sc, List.mem_map.2 ⟨_, hms, rfl⟩, by rw [hr]; decide⟩, Bool.false_and]]
      repeat' (first | refine aw_seq ?_ | refine zz ?_ | refine zon fun _ => ?_ | refine zoa fun vr lr hr => ?_ | ((first | apply ao_call | apply aq_call); exact wants_a; (first | exact oc_func rfl | exact oc_clos rfl rfl | exact oc_bnd rfl rfl); (exact rfl); (first | exact fun w hw => hrt w hw.below)) | refine zoS (fun _ => ?_) (fun _ => ?_) | refine zqS (fun _ => ?_) (fun _ => ?_) | refine zwS (fun _ => ?_) (fun _ => ?_))
      exact fun w' hw => ⟨rfl, hw.below⟩
    · rw [hr] at hrt
      repeat' (first | refine aw_seq ?_ | refine zz ?_ | refine zon fun _ => ?_ | refine zoa fun vr lr hr => ?_ | ((first | apply ao_call | apply aq_call); exact wants_a; (first | exact oc_func rfl | exact oc_clos rfl rfl | exact oc_bnd rfl rfl); (exact rfl); (first | exact fun w hw => hrt w hw.below)) | refine zoS (fun _ => ?_) (fun _ => ?_) | refine zqS (fun _ => ?_) (fun _ => ?_) | refine zwS (fun _ => ?_) (fun _ => ?_))
      exact lq_normal' ⟨i + 1, rfl, by omega, fun j s hj hs => by
        by_cases e1 : j = i
        · subst e1; rw [he] at hs; cases hs; exact hr
        · exact hall j s (by omega) hs, rfl, rfl⟩ (by omega) (by repeat (first | exact sub_nil | refine sub_cons rfl ?_)) hsub_a
  · obtain rfl : i = ss.length := by omega
    have hA : (scT ss).all rightS = true := by
      rw [List.all_eq_true]
      intro x hx
      obtain ⟨s, hs, rfl⟩ := List.mem_map.1 hx
      obtain ⟨j, hj⟩ := List.getElem?_of_mem hs
      exact hall j s (List.getElem?_eq_some_iff.1 hj).1 hj
    have hz : decide ((ss.length : Int) ≤ 8) = decide (ss.length ≤ 8) := by
      by_cases h8 : ss.length ≤ 8
      · rw [decide_eq_true h8, decide_eq_true (by omega)]
      · rw [decide_eq_false h8, decide_eq_false (by omega)]
    unfold rightScs
    rw [hA, Bool.true_and, show (scT ss).length = ss.length from List.length_map _, ← hz]
    repeat' (first | refine aw_seq ?_ | refine zz ?_ | refine zon fun _ => ?_ | refine zoa fun vr lr hr => ?_ | refine zoS (fun _ => ?_) (fun _ => ?_) | refine zqS (fun _ => ?_) (fun _ => ?_) | refine zwS (fun _ => ?_) (fun _ => ?_))
    exact fun w' hw => ⟨rfl, hw.below⟩
end Lct
end Go.Proofs.YtkjjlppfomidbaaGreat
