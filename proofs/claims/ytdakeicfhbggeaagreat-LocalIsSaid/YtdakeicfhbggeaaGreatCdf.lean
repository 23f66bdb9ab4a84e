/- What the landed cache tells: its objects, its graves; how many there would be behind deltas; conditions: names of at most 1,000 bytes, at most 1,000 objects. -/
import Derived.Test.YtdakeicfhbggeaaGreatCdc
import Derived.Test.YtdakeicfhbggeaaGreatCsi
import Derived.Test.YtdakeicfhbggeaaGreatEvl
import Derived.Test.YtdakeicfhbggeaaGreatCsx
/- Cdd: What the landed cache tells: its objects, its graves; how many there would be behind deltas; conditions: names of at most 1,000 bytes, at most 1,000 objects. -/
namespace Go.Proofs.YtdakeicfhbggeaaGreat
namespace Chm
open Go Go.RowKit Sx Lab Vec Ojt Evt
attribute [local irreducible] Go.Calls
section
variable {w : World} {g : Nat} {st : St} {mo mg : Option Nat} {X : List (PO × Nat)} {co : Nat} {G : List (Gr × Nat)} {cg : Nat}
set_option maxHeartbeats 16000000 in
theorem objects_ok (h : CAt w g st mo mg X co G cg) (hf : Fine st) (hwf : ∀ o ∈ st.os, wfS o) (hl : st.os.length ≤ 1000) : Calls Tryz.prog 27 #[.pointer (some ⟨g, 0, none⟩)] w fun e w' => ∃ r, e = .returned r ∧ NewD (DObjs st.os) w w' r := by
  have c0 := h.c0
  have lt := h.lt
  have hold : ∀ y ∈ X.map enO, y.2.2 < co := fun y hy => by
    obtain ⟨x, hx, rfl⟩ := List.mem_map.1 hy
    exact h.lx.lo x hx
  have hnod : ((X.map enO).map (·.2.2)).Nodup := by
    rw [List.map_map]
    exact h.lx.bo
  have hXl : X.length ≤ 1000 := by rw [← h.lx.os.length_eq, List.length_map] at hl; exact hl
  have hmap := fun {n : Nat} {H : Hp} => h.map_o (n := n) (H := H)
  refine calls1 (args := [.pointer (some ⟨g, 0, none⟩)]) Tryz.func27 rfl rfl rfl rfl ?_
  repeat' (first | refine aw_seq ?_ | ((first | apply ao_val | apply aq_val); exact wants_a; (first | exact ov_nilcheck rfl | exact ov_peqs rfl rfl | exact ov_a); (exact rfl)) | refine zy ?_ | refine zon fun _ => ?_ | refine zoa fun vr lr hr => ?_ | (apply ao_new; exact wants_a; exact on_mrangeO rfl hmap; exact rfl; intro bi) | refine zoS (fun _ => ?_) (fun _ => ?_) | refine zqS (fun _ => ?_) (fun _ => ?_) | refine zwS (fun _ => ?_) (fun _ => ?_))
  refine aw_for (t0 := [(0, .pointer (some ⟨g, 0, none⟩)), (3, .slice none 0 0), (12, .pointer (some ⟨_, 0, none⟩))]) (fun q t H => ∃ (bi : Nat) (seen : Array Nat) (done : List (PO × Nat)) (v5 : Value) (l5 : Hp), q = (X.filter fun y => !seen.contains y.2).length ∧ Out X done seen ∧
    RowB 61 8 v5 l5 (done.map (·.1)).length ((done.map (·.1)).flatMap cellsO) ∧ t = [(0, .pointer (some ⟨g, 0, none⟩)), (3, v5), (12, .pointer (some ⟨bi, 0, none⟩))] ∧ H = l5 ++ [(bi, .mapIter mo co seen co)]) ⟨_, _, [], _, [], rfl, Out.nil, RowB.nil, rfl, rfl⟩ (by repeat (first | exact sub_nil | refine sub_cons rfl ?_)) ?_
  rintro q t H ⟨bi, seen, done, v5, l5, rfl, hout, r5, rfl, rfl⟩
  repeat' (first | refine aw_seq ?_ | refine zz ?_ | refine zon fun _ => ?_ | refine zoa fun vr lr hr => ?_ | (apply ao_mnextO; exact wants_a; exact rfl; exact cut_a; exact hmap; exact hold; exact Nat.le_refl _; exact rfl; intro hall; rotate_left; intro y hy hns; rotate_left) | refine zoS (fun _ => ?_) (fun _ => ?_) | refine zqS (fun _ => ?_) (fun _ => ?_) | refine zwS (fun _ => ?_) (fun _ => ?_))
  · have hperm := hout.all h.lx.bo fun x hx => hall (enO x) (List.mem_map.2 ⟨x, hx, rfl⟩)
    have hobs : (obs (done.map (·.1))).Perm st.os := by
      show ((done.map (·.1)).map (·.2)).Perm _
      rw [List.map_map]
      exact (hperm.map fun x => x.1.2).trans h.lx.os
    have hsort : sortO (obs (done.map (·.1))) = st.os := by
      refine rise_unique (rise_sort ((hobs.pairwise_iff (fun h => h.symm)).2 hf.os.own) fun o ho => hf.os.2 o (hobs.mem_iff.1 ho)) hf.os fun o => ?_
      rw [(sort_perm _).mem_iff, hobs.mem_iff]
    have hdl : (done.map (·.1)).length ≤ 1000 := by rw [List.length_map, hperm.length_eq]; exact hXl
    have hwfl : wfL (done.map (·.1)) := ⟨by omega, fun p hp => hwf p.2 (hobs.mem_iff.1 (List.mem_map.2 ⟨p, hp, rfl⟩))⟩
    have hres : ∀ p ∈ done.map (·.1), ResAt w p.1 p.2.rs := fun p hp => by
      obtain ⟨x, hx, rfl⟩ := List.mem_map.1 hp
      exact h.res x (hout.sub x hx)
    repeat' (first | refine aw_seq ?_ | refine zz ?_ | refine zon fun _ => ?_ | refine zoa fun vr lr hr => ?_ | (apply ao_callD; exact wants_a; (exact oc_func rfl); (exact rfl); (first | exact fun w hw => psorted_ok _ _ hwfl (by omega) w (objs_old hw r5 cut_a fun p hp => (hres p hp).below hw.below)); intro vr lr hr) | refine zoS (fun _ => ?_) (fun _ => ?_) | refine zqS (fun _ => ?_) (fun _ => ?_) | refine zwS (fun _ => ?_) (fun _ => ?_))
    revert vr lr hr
    rw [hsort]
    intro v1 l1 d1
    repeat' (first | refine aw_seq ?_ | refine zz ?_ | refine zon fun _ => ?_ | refine zoa fun vr lr hr => ?_ | refine zoS (fun _ => ?_) (fun _ => ?_) | refine zqS (fun _ => ?_) (fun _ => ?_) | refine zwS (fun _ => ?_) (fun _ => ?_))
    exact fun w' hw => ⟨_, rfl, hw.toD rfl (l := l1) (by solve | (repeat (first | exact Cut.here | exact Cut.here1 | exact Cut.nil | apply Cut.skip | apply Cut.skipA))) d1⟩
  · obtain ⟨⟨⟨xv, k1, s1, n1, ver, c, tm, bs, rs⟩, b⟩, hx, rfl⟩ := List.mem_map.1 hy
    obtain ⟨va, vc, e⟩ := (h.res _ hx).len
    simp only at e
    subst e
    have hdl : (done.map (·.1)).length ≤ 1000 := by
      have hs : done.length ≤ X.length := by
        have := hout.nd
        exact nodup_len hout.nd hout.sub
      rw [List.length_map]
      omega
    repeat' (first | refine aw_seq ?_ | ((first | apply ao_val | apply aq_val); exact wants_a; (first | exact ov_entryO rfl has_a hmap hnod (List.mem_map.2 ⟨_, hx, rfl⟩) | exact ov_a); (exact rfl)) | refine zy ?_ | refine zon fun _ => ?_ | refine zoa fun vr lr hr => ?_ | refine zoS (fun _ => ?_) (fun _ => ?_) | refine zqS (fun _ => ?_) (fun _ => ?_) | refine zwS (fun _ => ?_) (fun _ => ?_))
    exact lq_normal' ⟨bi, _, done ++ [((.slice va rs.length vc, ⟨k1, s1, n1, ver, c, tm, bs, rs⟩), b)], _, _, rfl, hout.snoc hx hns, by rw [List.map_append]; exact row_o hr, rfl, rfl⟩ (left_less (fun y : PO × Nat => y.2) hx hns) (by repeat (first | exact sub_nil | refine sub_cons rfl ?_)) hsub_a
def cntS (n : Int) (d : De) : Int := if d.had = false then n + 1 else if d.has = false then n - 1 else n
def cntD (n : Int) (ds : List De) : Int := ds.foldl cntS n
theorem cntS_le (n : Int) (d : De) : n - 1 ≤ cntS n d ∧ cntS n d ≤ n + 1 := by
  unfold cntS
  split
  · omega
  · split <;> omega
theorem cntD_le : ∀ (ds : List De) (n : Int), n - ds.length ≤ cntD n ds ∧ cntD n ds ≤ n + ds.length
  | [], n => by simp [cntD]
  | d :: ds, n => by
    have h1 := cntD_le ds (cntS n d)
    have h2 := cntS_le n d
    have e : cntD n (d :: ds) = cntD (cntS n d) ds := rfl
    rw [e, List.length_cons]
    omega
theorem cntD_snoc (n : Int) (ds : List De) (d : De) : cntD n (ds ++ [d]) = cntS (cntD n ds) d := by
  unfold cntD
  rw [List.foldl_append]
  rfl
set_option maxHeartbeats 16000000 in
theorem count_ok (h : CAt w g st mo mg X co G cg) (hl : st.os.length ≤ 1000) (v : Value) (ds : List PD) (hd : ds.length ≤ 100000) (hv : OldRow w 21 v ds.length (ds.flatMap cellsD)) (hpl : ∀ d ∈ ds, (∃ a n c, d.old.1 = .slice a n c) ∧ ∃ a n c, d.new.1 = .slice a n c) :
    Calls Tryz.prog 51 #[.pointer (some ⟨g, 0, none⟩), v] w fun e w' => e = .returned (I (cntD st.os.length (ds.map deD))) ∧ Below w.heap.size w w' := by
  have c0 := h.c0
  have lt := h.lt
  have hlen := fun {n : Nat} {t : Tm} {H : Hp} {x : Operand} {ty : TypeId} hx => h.len_o (n := n) (t := t) (H := H) (x := x) (ty := ty) hx
  obtain ⟨a, cp, rfl, hat⟩ := OldRow.cells cellsD_len hv
  generalize hN : st.os.length = N at hl hlen ⊢
  refine calls1 (args := [.pointer (some ⟨g, 0, none⟩), .slice a ds.length cp]) Tryz.func51 rfl rfl rfl rfl ?_
  repeat' (first | refine aw_seq ?_ | ((first | apply ao_val | apply aq_val); exact wants_a; (first | exact ov_nilcheck rfl | exact hlen rfl | exact ov_a); (exact rfl)) | refine zy ?_ | refine zon fun _ => ?_ | refine zoa fun vr lr hr => ?_ | refine zoS (fun _ => ?_) (fun _ => ?_) | refine zqS (fun _ => ?_) (fun _ => ?_) | refine zwS (fun _ => ?_) (fun _ => ?_))
  refine aw_for (t0 := [(5, I (N : Int)), (13, .slice a ds.length cp), (14, I ds.length), (15, I (0 : Nat))]) (fun q t H => ∃ (i : Nat) (n : Int), q = ds.length - i ∧ i ≤ ds.length ∧ n = cntD N ((ds.take i).map deD) ∧
    t = [(5, I n), (13, .slice a ds.length cp), (14, I ds.length), (15, I i)] ∧ H = []) ⟨0, _, rfl, Nat.zero_le _, rfl, rfl, rfl⟩ (by repeat (first | exact sub_nil | refine sub_cons rfl ?_)) ?_
  rintro q t H ⟨i, n, rfl, hi, hn, rfl, rfl⟩
  have hb := cntD_le ((ds.take i).map deD) N
  rw [← hn, List.length_map, List.length_take, Nat.min_eq_left hi] at hb
  by_cases hlt : i < ds.length
  · obtain ⟨d, he⟩ := getP hlt
    obtain ⟨⟨x1, x2, x3, hx⟩, y1, y2, y3, hy⟩ := hpl d (List.mem_of_getElem? he)
    have hnx : cntD N ((ds.take (i + 1)).map deD) = cntS n (deD d) := by
      rw [List.take_add_one, he, List.map_append, hn]
      exact cntD_snoc _ _ _
    obtain ⟨key, had, has, ⟨ov, oo⟩, ⟨nv, no⟩⟩ := d
    simp only at hx hy
    subst hx hy
    obtain ⟨gb, o1, rfl, hg, hc⟩ := hat i _ (i : Int) he rfl
    unfold cellsD at hc
    simp only at hc
    unfold cntS deD at hnx
    simp only at hnx
    cases had
    · rw [if_pos rfl] at hnx
      repeat' (first | refine aw_seq ?_ | ((first | apply ao_val | apply aq_val); exact wants_a; (first | exact ov_load_oa rfl hg hc rfl | exact ov_a); (exact rfl)) | refine zy ?_ | refine zon fun _ => ?_ | refine zoa fun vr lr hr => ?_ | refine zoS (fun _ => ?_) (fun _ => ?_) | refine zqS (fun _ => ?_) (fun _ => ?_) | refine zwS (fun _ => ?_) (fun _ => ?_))
      exact lq_normal' ⟨i + 1, n + 1, rfl, by omega, hnx.symm, rfl, rfl⟩ (by omega) (by repeat (first | exact sub_nil | refine sub_cons rfl ?_)) hsub_a
    · rw [if_neg (by decide)] at hnx
      cases has
      · rw [if_pos rfl] at hnx
        repeat' (first | refine aw_seq ?_ | ((first | apply ao_val | apply aq_val); exact wants_a; (first | exact ov_load_oa rfl hg hc rfl | exact ov_a); (exact rfl)) | refine zy ?_ | refine zon fun _ => ?_ | refine zoa fun vr lr hr => ?_ | refine zoS (fun _ => ?_) (fun _ => ?_) | refine zqS (fun _ => ?_) (fun _ => ?_) | refine zwS (fun _ => ?_) (fun _ => ?_))
        exact lq_normal' ⟨i + 1, n - 1, rfl, by omega, hnx.symm, rfl, rfl⟩ (by omega) (by repeat (first | exact sub_nil | refine sub_cons rfl ?_)) hsub_a
      · rw [if_neg (by decide)] at hnx
        repeat' (first | refine aw_seq ?_ | ((first | apply ao_val | apply aq_val); exact wants_a; (first | exact ov_load_oa rfl hg hc rfl | exact ov_a); (exact rfl)) | refine zy ?_ | refine zon fun _ => ?_ | refine zoa fun vr lr hr => ?_ | refine zoS (fun _ => ?_) (fun _ => ?_) | refine zqS (fun _ => ?_) (fun _ => ?_) | refine zwS (fun _ => ?_) (fun _ => ?_))
        exact lq_normal' ⟨i + 1, n, rfl, by omega, hnx.symm, rfl, rfl⟩ (by omega) (by repeat (first | exact sub_nil | refine sub_cons rfl ?_)) hsub_a
  · obtain rfl : i = ds.length := by omega
    rw [List.take_length] at hn
    subst hn
    repeat' (first | refine aw_seq ?_ | refine zz ?_ | refine zon fun _ => ?_ | refine zoa fun vr lr hr => ?_ | refine zoS (fun _ => ?_) (fun _ => ?_) | refine zqS (fun _ => ?_) (fun _ => ?_) | refine zwS (fun _ => ?_) (fun _ => ?_))
    exact fun w' hw => ⟨rfl, hw.below⟩
end
end Chm
end Go.Proofs.YtdakeicfhbggeaaGreat
/- Cde: What the landed code's deltas are: key by key; conditions: none. -/
namespace Go.Proofs.YtdakeicfhbggeaaGreat
namespace Chm
open Go Go.RowKit Sx Lab Vec Ojt Evt
theorem getO_cons (x : Ob) (a : List Ob) (k : Kt) : getO (x :: a) k = if keyO x = k then some x else getO a k := by
  unfold getO
  rw [List.find?_cons]
  by_cases h : keyO x = k
  · rw [decide_eq_true h, if_pos h]
  · rw [decide_eq_false h, if_neg h]
def dK (x y : Option Ob) (k : Kt) : De := ⟨k, (getB x).2, (getB y).2, (getB x).1, (getB y).1⟩
theorem rise_tail {x : Ob} {a : List Ob} (h : Rise (x :: a)) : Rise a ∧ getO a (keyO x) = none := by
  have h1 := List.pairwise_cons.1 h.1
  exact ⟨h.sub (List.sublist_cons_self x a), getO_none.2 fun o ho e => lessO_ne (h1.1 o ho) e.symm⟩
theorem rise_ahead {x y : Ob} {b : List Ob} (h : Rise (y :: b)) (hl : lessO x y = true) : getO (y :: b) (keyO x) = none := by
  have h1 := List.pairwise_cons.1 h.1
  refine getO_none.2 fun o ho e => ?_
  rcases List.mem_cons.1 ho with rfl | ho
  · exact lessO_ne hl e.symm
  · exact lessO_ne (less_trans hl (h1.1 o ho)) e.symm
theorem dlO_mem : ∀ (a b : List Ob), Rise a → Rise b → ∀ d, d ∈ dlO a b ↔ ∃ k, getO a k ≠ getO b k ∧ d = dK (getO a k) (getO b k) k
  | [], [], _, _, d => by
    rw [dlO]
    simp [getO]
  | x :: a, [], ha, hb, d => by
    obtain ⟨ha2, hx⟩ := rise_tail ha
    have ih := dlO_mem a [] ha2 hb d
    rw [dlO, List.mem_cons, ih]
    constructor
    · rintro (rfl | ⟨k, h1, rfl⟩)
      · refine ⟨keyO x, ?_, ?_⟩
        · rw [getO_cons, if_pos rfl]; simp [getO]
        · rw [getO_cons, if_pos rfl]; rfl
      · have hk : keyO x ≠ k := fun e => by subst e; exact h1 hx
        refine ⟨k, ?_, ?_⟩
        · rw [getO_cons, if_neg hk]; exact h1
        · rw [getO_cons, if_neg hk]
    · rintro ⟨k, h1, rfl⟩
      by_cases hk : keyO x = k
      · subst hk
        left
        rw [getO_cons, if_pos rfl]
        rfl
      · right
        rw [getO_cons, if_neg hk] at h1 ⊢
        exact ⟨k, h1, rfl⟩
  | [], y :: b, ha, hb, d => by
    obtain ⟨hb2, hy⟩ := rise_tail hb
    have ih := dlO_mem [] b ha hb2 d
    rw [dlO, List.mem_cons, ih]
    constructor
    · rintro (rfl | ⟨k, h1, rfl⟩)
      · refine ⟨keyO y, ?_, ?_⟩
        · rw [getO_cons, if_pos rfl]; simp [getO]
        · rw [getO_cons, if_pos rfl]; rfl
      · have hk : keyO y ≠ k := fun e => by subst e; exact h1 hy.symm
        refine ⟨k, ?_, ?_⟩
        · rw [getO_cons, if_neg hk]; exact h1
        · rw [getO_cons, if_neg hk]
    · rintro ⟨k, h1, rfl⟩
      by_cases hk : keyO y = k
      · subst hk
        left
        rw [getO_cons, if_pos rfl]
        rfl
      · right
        rw [getO_cons, if_neg hk] at h1 ⊢
        exact ⟨k, h1, rfl⟩
  | x :: a, y :: b, ha, hb, d => by
    obtain ⟨ha2, hx⟩ := rise_tail ha
    obtain ⟨hb2, hy⟩ := rise_tail hb
    rw [dlO]
    by_cases hl : lessO x y = true
    · rw [if_pos hl, List.mem_cons, dlO_mem a (y :: b) ha2 hb d]
      have hn := rise_ahead hb hl
      constructor
      · rintro (rfl | ⟨k, h1, rfl⟩)
        · refine ⟨keyO x, ?_, ?_⟩
          · rw [hn, getO_cons, if_pos rfl]; simp
          · rw [hn, getO_cons, if_pos rfl]; rfl
        · have hk : keyO x ≠ k := fun e => by subst e; exact h1 (hx.trans hn.symm)
          refine ⟨k, ?_, ?_⟩
          · rw [getO_cons x, if_neg hk]; exact h1
          · rw [getO_cons x, if_neg hk]
      · rintro ⟨k, h1, rfl⟩
        by_cases hk : keyO x = k
        · subst hk
          left
          rw [hn, getO_cons, if_pos rfl]
          rfl
        · right
          rw [getO_cons x, if_neg hk] at h1 ⊢
          exact ⟨k, h1, rfl⟩
    · rw [if_neg hl]
      by_cases hm : lessO y x = true
      · rw [if_pos hm, List.mem_cons, dlO_mem (x :: a) b ha hb2 d]
        have hn := rise_ahead ha hm
        constructor
        · rintro (rfl | ⟨k, h1, rfl⟩)
          · refine ⟨keyO y, ?_, ?_⟩
            · rw [hn, getO_cons, if_pos rfl]; simp
            · rw [hn, getO_cons, if_pos rfl]; rfl
          · have hk : keyO y ≠ k := fun e => by subst e; exact h1 (hn.trans hy.symm)
            refine ⟨k, ?_, ?_⟩
            · rw [getO_cons y, if_neg hk]; exact h1
            · rw [getO_cons y, if_neg hk]
        · rintro ⟨k, h1, rfl⟩
          by_cases hk : keyO y = k
          · subst hk
            left
            rw [hn, getO_cons, if_pos rfl]
            rfl
          · right
            rw [getO_cons y, if_neg hk] at h1 ⊢
            exact ⟨k, h1, rfl⟩
      · rw [if_neg hm]
        have hke : keyO x = keyO y := lessK_total (right_keyR (ha.2 x List.mem_cons_self)) (right_keyR (hb.2 y List.mem_cons_self)) (Bool.eq_false_iff.2 hl) (Bool.eq_false_iff.2 hm)
        have step : ∀ {k : Kt}, keyO x ≠ k → getO (x :: a) k = getO a k ∧ getO (y :: b) k = getO b k := fun hk => by
          rw [getO_cons, if_neg hk, getO_cons, if_neg (hke ▸ hk)]
          exact ⟨rfl, rfl⟩
        have e1 : getO (x :: a) (keyO x) = some x := by rw [getO_cons, if_pos rfl]
        have e2 : getO (y :: b) (keyO x) = some y := by rw [getO_cons, if_pos hke.symm]
        have nx : getO a (keyO x) = getO b (keyO x) := by rw [hx, hke, hy]
        by_cases hxy : x = y
        · rw [if_pos hxy, dlO_mem a b ha2 hb2 d]
          constructor
          · rintro ⟨k, h1, rfl⟩
            have hk : keyO x ≠ k := fun e => by subst e; exact h1 nx
            obtain ⟨g1, g2⟩ := step hk
            exact ⟨k, by rw [g1, g2]; exact h1, by rw [g1, g2]⟩
          · rintro ⟨k, h1, rfl⟩
            have hk : keyO x ≠ k := fun e => by subst e; rw [e1, e2, hxy] at h1; exact h1 rfl
            obtain ⟨g1, g2⟩ := step hk
            rw [g1, g2] at h1 ⊢
            exact ⟨k, h1, rfl⟩
        · rw [if_neg hxy, List.mem_cons, dlO_mem a b ha2 hb2 d]
          constructor
          · rintro (rfl | ⟨k, h1, rfl⟩)
            · refine ⟨keyO x, ?_, ?_⟩
              · rw [e1, e2]; simpa using hxy
              · rw [e1, e2]; rfl
            · have hk : keyO x ≠ k := fun e => by subst e; exact h1 nx
              obtain ⟨g1, g2⟩ := step hk
              exact ⟨k, by rw [g1, g2]; exact h1, by rw [g1, g2]⟩
          · rintro ⟨k, h1, rfl⟩
            by_cases hk : keyO x = k
            · subst hk
              left
              rw [e1, e2]
              rfl
            · right
              obtain ⟨g1, g2⟩ := step hk
              rw [g1, g2] at h1 ⊢
              exact ⟨k, h1, rfl⟩
  termination_by a b => a.length + b.length
theorem dels_unique {l m : List De} (h1 : l.Pairwise fun d e => lessK d.key e.key = true) (h2 : m.Pairwise fun d e => lessK d.key e.key = true) (h : ∀ d, d ∈ l ↔ d ∈ m) : l = m :=
  Srt.ord_unique (lt := fun d e => lessK d.key e.key = true) (fun u h => by unfold lessK at h; rw [bl_irrefl] at h; cases h) (fun _ _ _ => lessK_trans) h1 h2 h
theorem dl_put {st : St} {o : Ob} (hf : Fine st) (hr : rightO o = true) (hv : knO st (keyO o) < o.ver) : dlO st.os (wiO st.os o) = [comesD st o] := by
  refine dels_unique (dl_keys _ _ hf.os (wiO_rise hf.os hr)).2 (by simp) fun d => ?_
  rw [dlO_mem _ _ hf.os (wiO_rise hf.os hr), List.mem_singleton]
  have hne : getO st.os (keyO o) ≠ some o := fun e => by have := kn_ob e; omega
  constructor
  · rintro ⟨k, h1, rfl⟩
    rw [getO_wi hf.os hr] at h1 ⊢
    by_cases hk : k = keyO o
    · rw [if_pos hk, hk]
      rfl
    · rw [if_neg hk] at h1
      exact absurd rfl h1
  · rintro rfl
    exact ⟨keyO o, by rw [getO_wi hf.os hr, if_pos rfl]; exact hne, by rw [getO_wi hf.os hr, if_pos rfl]; rfl⟩
theorem goes_is {st : St} {k : Kt} {old : Ob} (h : getO st.os k = some old) : goesD old = dK (some old) none k := by
  rw [← (getO_some h).2]
  rfl
theorem dl_del {st : St} (hf : Fine st) (k : Kt) : dlO st.os (woO st.os k) = match getO st.os k with | some old => [goesD old] | none => [] := by
  have hmem := dlO_mem _ _ hf.os (woO_rise hf.os (k := k))
  refine dels_unique (dl_keys _ _ hf.os (woO_rise hf.os)).2 (by cases getO st.os k <;> simp) fun d => ?_
  rw [hmem]
  cases hg : getO st.os k with
  | none =>
    constructor
    · rintro ⟨j, h1, rfl⟩
      rw [getO_wo hf.os.own] at h1
      by_cases hk : j = k
      · rw [if_pos hk, hk, hg] at h1
        exact absurd rfl h1
      · rw [if_neg hk] at h1
        exact absurd rfl h1
    · intro h; cases h
  | some old =>
    rw [List.mem_singleton, goes_is hg]
    constructor
    · rintro ⟨j, h1, rfl⟩
      rw [getO_wo hf.os.own] at h1 ⊢
      by_cases hk : j = k
      · rw [if_pos hk, hk, hg]
      · rw [if_neg hk] at h1
        exact absurd rfl h1
    · rintro rfl
      exact ⟨k, by rw [getO_wo hf.os.own, if_pos rfl, hg]; simp, by rw [getO_wo hf.os.own, if_pos rfl, hg]⟩
def newsB (st : St) (q : Ob) : Bool := match getO st.os (keyO q) with
  | some old => if old.ver = q.ver then !(decide (old = q)) else decide (knO st (keyO q) < q.ver)
  | none => decide (knO st (keyO q) < q.ver)
theorem news_is {st : St} {q : Ob} : newsB st q = true ↔ takesO st q = true ∧ getO st.os (keyO q) ≠ some q := by
  unfold newsB takesO
  cases hg : getO st.os (keyO q) with
  | none => simp
  | some old =>
    simp only
    by_cases hv : old.ver = q.ver
    · rw [if_pos hv]
      simp [hv]
    · rw [if_neg hv]
      have hne : old ≠ q := fun e => hv (by rw [e])
      simp [hv, hne]
theorem dl_rel {st : St} {qs : List Ob} {ver : Int} (hf : Fine st) (hq : Rise qs) (d : De) :
    d ∈ dlO st.os (rlO st qs ver) ↔ (∃ q ∈ qs, newsB st q = true ∧ d = comesD st q) ∨ ∃ old ∈ st.os, old.ver ≤ ver ∧ hasO qs (keyO old) = false ∧ d = goesD old := by
  rw [dlO_mem _ _ hf.os (rlO_rise hf.os hq.2)]
  have hget := fun k => rlO_get (ver := ver) hf.os hq.2 hq.own k
  constructor
  · rintro ⟨k, h1, rfl⟩
    rw [hget k] at h1 ⊢
    cases hgq : getO qs k with
    | some q =>
      rw [hgq] at h1
      simp only at h1 ⊢
      obtain ⟨m1, m2⟩ := getO_some hgq
      by_cases ht : takesO st q = true
      · rw [if_pos ht] at h1 ⊢
        refine .inl ⟨q, m1, news_is.2 ⟨ht, by rw [m2]; exact h1⟩, ?_⟩
        subst m2
        rfl
      · rw [if_neg ht] at h1
        exact absurd rfl h1
    | none =>
      rw [hgq] at h1
      simp only at h1 ⊢
      cases hgo : getO st.os k with
      | none => rw [hgo] at h1; exact absurd rfl h1
      | some old =>
        rw [hgo] at h1
        rw [Option.filter_some] at h1 ⊢
        obtain ⟨m1, m2⟩ := getO_some hgo
        by_cases hv : ver < old.ver
        · rw [if_pos (decide_eq_true hv)] at h1
          exact absurd rfl h1
        · rw [if_neg (by simpa using hv)]
          refine .inr ⟨old, m1, by omega, ?_, (goes_is hgo).symm⟩
          cases hh : hasO qs (keyO old)
          · rfl
          · obtain ⟨q, hq1, hq2⟩ := hasO_iff.1 hh
            exact absurd (hq2.trans m2) (getO_none.1 hgq q hq1)
  · rintro (⟨q, m1, hn, rfl⟩ | ⟨old, m1, hv, hh, rfl⟩)
    · obtain ⟨ht, hne⟩ := news_is.1 hn
      have hgq := getO_mem hq.own m1
      refine ⟨keyO q, ?_, ?_⟩
      · rw [hget, hgq]
        simp only
        rw [if_pos ht]
        exact hne
      · rw [hget, hgq]
        simp only
        rw [if_pos ht]
        rfl
    · have hgo := getO_mem hf.os.own m1
      have hgq : getO qs (keyO old) = none := getO_none.2 fun q hq1 e => by
        have := hasO_iff.2 ⟨q, hq1, e⟩
        rw [hh] at this
        cases this
      refine ⟨keyO old, ?_, ?_⟩
      · rw [hget, hgq, hgo]
        simp only
        rw [Option.filter_some, if_neg (by simpa using hv)]
        simp
      · rw [hget, hgq, hgo]
        simp only
        rw [Option.filter_some, if_neg (by simpa using hv)]
        rfl
end Chm
end Go.Proofs.YtdakeicfhbggeaaGreat
/- Cdf: The landed code's deltas of an event; conditions: names of at most 1,000 bytes, at most 1,000 objects. -/
namespace Go.Proofs.YtdakeicfhbggeaaGreat
namespace Chm
open Go Go.RowKit Sx Lab Vec Ojt Evt
attribute [local irreducible] Go.Calls
theorem cntD_dl : ∀ (a b : List Ob), cntD a.length (dlO a b) = b.length := by
  have key : ∀ (a b : List Ob) (n : Int), cntD n (dlO a b) = n + b.length - a.length := by
    intro a b
    induction a, b using dlO.induct with
    | case1 => intro n; rw [dlO]; simp [cntD]
    | case2 x a ih =>
      intro n
      rw [dlO]
      show cntD (n - 1) (dlO a []) = _
      rw [ih, List.length_cons]
      omega
    | case3 y b ih =>
      intro n
      rw [dlO]
      show cntD (n + 1) (dlO [] b) = _
      rw [ih, List.length_cons]
      omega
    | case4 x a y b h ih =>
      intro n
      rw [dlO, if_pos h]
      show cntD (n - 1) (dlO a (y :: b)) = _
      rw [ih, List.length_cons, List.length_cons]
      omega
    | case5 x a y b h h2 ih =>
      intro n
      rw [dlO, if_neg h, if_pos h2]
      show cntD (n + 1) (dlO (x :: a) b) = _
      rw [ih, List.length_cons, List.length_cons]
      omega
    | case6 x a b h h2 ih =>
      intro n
      rw [dlO, if_neg h, if_neg h2, if_pos rfl]
      rw [ih, List.length_cons, List.length_cons]
      omega
    | case7 x a y b h h2 h3 ih =>
      intro n
      rw [dlO, if_neg h, if_neg h2, if_neg h3]
      show cntD n (dlO a b) = _
      rw [ih, List.length_cons, List.length_cons]
      omega
  intro a b
  rw [key]
  omega
section
variable {w : World} {g : Nat} {st : St} {mo mg : Option Nat} {X : List (PO × Nat)} {co : Nat} {G : List (Gr × Nat)} {cg : Nat}
set_option maxHeartbeats 16000000 in
theorem news_ok (h : CAt w g st mo mg X co G cg) (hf : Fine st) (hwf : ∀ o ∈ st.os, wfS o) (p : PO) (hp : wfS p.2) (hres : ResAt w p.1 p.2.rs) :
    Calls Tryz.prog 125 #[.pointer (some ⟨g, 0, none⟩), OV p.2 p.1] w fun e w' => e = .returned (.bool (newsB st p.2)) ∧ Below w.heap.size w w' := by
  obtain ⟨v, hv, hlo⟩ := h.look_o hf.os.own (keyO p.2)
  have hk := fun w' (hb : Below w.heap.size w w') => known_ok (h.below hb) hf (keyO p.2)
  have c0 := h.c0
  have lt := h.lt
  obtain ⟨va, vc, hvl⟩ := hv.len
  subst hvl
  unfold newsB
  obtain ⟨x, k, s, n, over, c, tm, bs, rs⟩ := p
  obtain ⟨xa, xc, hx⟩ := hres.len
  simp only at hx
  subst hx
  simp only at hlo hv hres ⊢
  cases hg : getO st.os (k, s, n) with
  | none =>
    rw [hg] at hlo
    unfold getB at hlo
    simp only at hlo ⊢
    refine calls1 (args := [.pointer (some ⟨g, 0, none⟩), OV ⟨k, s, n, over, c, tm, bs, rs⟩ (.slice xa rs.length xc)]) Tryz.func125 rfl rfl rfl rfl ?_
    repeat' (first | (apply ao_nilh; exact hsub_a) | apply ao_nil | apply aq_nil | apply ah_end | ((first | apply ao_val | apply aq_val | (apply ah_take; (exact rfl))); exact wants_a; (first | exact ov_nilcheck rfl | exact hlo true rfl rfl | exact ov_a); (exact rfl)) | ((first | apply ao_skip | apply aq_skip | (apply ah_skip; (exact rfl))); exact nots_a; (exact rfl)) | (refine ao_is ?_; first | (apply ao_new; exact wants_a; exact on_a; (exact rfl); intro _) | (apply ao_store; exact wants_a; exact ow_a; exact upd_a) | (apply ao_valw; exact wants_a; exact ox_a; (exact rfl); exact upd_a) | (apply ao_skip0; exact nots_a) | (apply ao_append; exact wants_a; (exact rfl); assumption; (exact rfl); exact cut_a; exact has_a; (exact rfl); (exact rfl); omega; omega; omega; (exact rfl); intro vr lr hr)) | ((first | apply ao_call | apply aq_call); exact wants_a; (first | exact oc_func rfl | exact oc_clos rfl rfl | exact oc_bnd rfl rfl); (exact rfl); (first | exact fun w hw => hk w hw.below)) | (apply ah_one; (exact rfl)) | (apply ah_two; (exact rfl); (exact rfl)) | (apply ah_three; (exact rfl); (exact rfl); (exact rfl)) | (refine aw_is ?_; first | (apply aw_held (id := 1) (pl := (.t 0 (.t 1 (.t 2 (.t 3 (.t 4 (.t 5 (.t 6 (.t 7 (.t 8 (.t 9 (.o 10 (.o 11 (.t 12 .e)))))))))))))); (kernel_rfl); (kernel_rfl); (kernel_rfl); (solve | (exact List.Sublist.refl _))) | refine aw_seq ?_ | refine aw_block ?_ | refine aw_region ?_ | refine aw_skip ?_ | refine aw_exit ?_ | refine aw_ret ?_ | refine aw_label ?_ | refine aw_scope ?_ | refine aw_cond_t rfl (by with_reducible rfl) ?_ | refine aw_cond_f rfl (by with_reducible rfl) ?_ | refine aw_draw (by kernel_rfl) (by kernel_rfl) ?_) | (first | (refine ah_is ?_; (fail_if_success first | refine ah_glit (b := true) rfl rfl rfl (by with_reducible rfl) ?_ | refine ah_glit (b := false) rfl rfl rfl (by with_reducible rfl) ?_); apply ah_gt; (exact rfl); (exact rfl); (exact rfl); exact t_a) | ((refine ao_is ?_; (fail_if_success first | refine ao_glit (b := true) rfl rfl (by with_reducible rfl) ?_ | refine ao_glit (b := false) rfl rfl (by with_reducible rfl) ?_)); apply ao_gt; (exact rfl); (exact rfl); exact t_a) | ((refine aq_is ?_; (fail_if_success first | refine aq_glit (b := true) rfl rfl (by with_reducible rfl) ?_ | refine aq_glit (b := false) rfl rfl (by with_reducible rfl) ?_)); apply aq_gt; (exact rfl); (exact rfl); exact t_a) | (apply aw_ct; (exact rfl); exact t_a)) | (first | (refine ah_is ?_; (fail_if_success first | refine ah_glit (b := true) rfl rfl rfl (by with_reducible rfl) ?_ | refine ah_glit (b := false) rfl rfl rfl (by with_reducible rfl) ?_); apply ah_gf; (exact rfl); (exact rfl); (exact rfl); exact f_a) | ((refine ao_is ?_; (fail_if_success first | refine ao_glit (b := true) rfl rfl (by with_reducible rfl) ?_ | refine ao_glit (b := false) rfl rfl (by with_reducible rfl) ?_)); apply ao_gf; (exact rfl); (exact rfl); exact f_a) | ((refine aq_is ?_; (fail_if_success first | refine aq_glit (b := true) rfl rfl (by with_reducible rfl) ?_ | refine aq_glit (b := false) rfl rfl (by with_reducible rfl) ?_)); apply aq_gf; (exact rfl); (exact rfl); exact f_a) | (apply aw_cf; (exact rfl); exact f_a)) | refine at_normal ?_ | refine at_exit ?_ | refine at_ret ?_ | refine ib_normal ?_ | refine ib_exit ?_ | refine ib_other ?_ | refine ib_ret ?_ | refine lq_exit ?_ | refine lq_ret ?_ | refine ci_ret ?_ | refine ci_exit ?_ | refine r1_ret rfl ?_ | refine r1_normal rfl ?_ | refine r2_ret rfl rfl ?_ | refine r2_normal rfl rfl ?_ | refine r3_ret rfl rfl rfl ?_ | refine r3_normal rfl rfl rfl ?_ | refine ng_normal ?_ | refine ng_exit ?_ | refine ng_ret ?_ | (apply rt_ret; (exact rfl); (exact rfl); (exact rfl); exact has_a; exact has_a; (exact rfl); (exact rfl)) | (apply rc1_ret; (exact rfl); exact has_a; (exact rfl)) | (apply rc2_ret; (exact rfl); exact has_a; (exact rfl); (exact rfl)) | (refine ao_is ?_; (fail_if_success first | refine ao_glit (b := true) rfl rfl (by with_reducible rfl) ?_ | refine ao_glit (b := false) rfl rfl (by with_reducible rfl) ?_); refine ao_gbool rfl rfl (fun _ => ?_) (fun _ => ?_)) | (refine aq_is ?_; (fail_if_success first | refine aq_glit (b := true) rfl rfl (by with_reducible rfl) ?_ | refine aq_glit (b := false) rfl rfl (by with_reducible rfl) ?_); refine aq_gbool rfl rfl (fun _ => ?_) (fun _ => ?_)) | (refine aw_is ?_; refine aw_cond rfl (fun _ => ?_) (fun _ => ?_)))
    exact ret_bool rfl
  | some old =>
    rw [hg] at hlo hv
    have ho := hwf old (getO_some hg).1
    unfold getB at hlo hv
    simp only at hlo hv ⊢
    have h2 := fun w' (hb : Below w.heap.size w w') => Ojt.same_ok old ⟨k, s, n, over, c, tm, bs, rs⟩ _ _ ho.wfO hp.wfO w' (hv.below hb) (hres.below hb)
    rw [same_eq] at h2
    obtain ⟨k1, s1, n1, ver2, c2, tm2, bs2, rs2⟩ := old
    simp only at hlo hv h2 ⊢
    refine calls1 (args := [.pointer (some ⟨g, 0, none⟩), OV ⟨k, s, n, over, c, tm, bs, rs⟩ (.slice xa rs.length xc)]) Tryz.func125 rfl rfl rfl rfl ?_
    by_cases hv2 : ver2 = over
    · have e0 : (ver2 == over) = true := beq_iff_eq.2 hv2
      rw [if_pos hv2]
      repeat' (first | (apply ao_nilh; exact hsub_a) | apply ao_nil | apply aq_nil | apply ah_end | ((first | apply ao_val | apply aq_val | (apply ah_take; (exact rfl))); exact wants_a; (first | exact ov_nilcheck rfl | exact hlo true rfl rfl | exact ov_a); (exact rfl)) | ((first | apply ao_skip | apply aq_skip | (apply ah_skip; (exact rfl))); exact nots_a; (exact rfl)) | (refine ao_is ?_; first | (apply ao_new; exact wants_a; exact on_a; (exact rfl); intro _) | (apply ao_store; exact wants_a; exact ow_a; exact upd_a) | (apply ao_valw; exact wants_a; exact ox_a; (exact rfl); exact upd_a) | (apply ao_skip0; exact nots_a) | (apply ao_append; exact wants_a; (exact rfl); assumption; (exact rfl); exact cut_a; exact has_a; (exact rfl); (exact rfl); omega; omega; omega; (exact rfl); intro vr lr hr)) | ((first | apply ao_call | apply aq_call); exact wants_a; (first | exact oc_func rfl | exact oc_clos rfl rfl | exact oc_bnd rfl rfl); (exact rfl); (first | exact fun w hw => hk w hw.below | exact fun w hw => h2 w hw.below)) | (apply ah_one; (exact rfl)) | (apply ah_two; (exact rfl); (exact rfl)) | (apply ah_three; (exact rfl); (exact rfl); (exact rfl)) | (refine aw_is ?_; first | (apply aw_held (id := 1) (pl := (.t 0 (.t 1 (.t 2 (.t 3 (.t 4 (.t 5 (.t 6 (.t 7 (.t 8 (.t 9 (.o 10 (.o 11 (.t 12 .e)))))))))))))); (kernel_rfl); (kernel_rfl); (kernel_rfl); (solve | (exact List.Sublist.refl _))) | refine aw_seq ?_ | refine aw_block ?_ | refine aw_region ?_ | refine aw_skip ?_ | refine aw_exit ?_ | refine aw_ret ?_ | refine aw_label ?_ | refine aw_scope ?_ | refine aw_cond_t rfl (by with_reducible rfl) ?_ | refine aw_cond_f rfl (by with_reducible rfl) ?_ | refine aw_draw (by kernel_rfl) (by kernel_rfl) ?_) | (first | (refine ah_is ?_; (fail_if_success first | refine ah_glit (b := true) rfl rfl rfl (by with_reducible rfl) ?_ | refine ah_glit (b := false) rfl rfl rfl (by with_reducible rfl) ?_); apply ah_gt; (exact rfl); (exact rfl); (exact rfl); exact t_a) | ((refine ao_is ?_; (fail_if_success first | refine ao_glit (b := true) rfl rfl (by with_reducible rfl) ?_ | refine ao_glit (b := false) rfl rfl (by with_reducible rfl) ?_)); apply ao_gt; (exact rfl); (exact rfl); exact t_a) | ((refine aq_is ?_; (fail_if_success first | refine aq_glit (b := true) rfl rfl (by with_reducible rfl) ?_ | refine aq_glit (b := false) rfl rfl (by with_reducible rfl) ?_)); apply aq_gt; (exact rfl); (exact rfl); exact t_a) | (apply aw_ct; (exact rfl); exact t_a)) | (first | (refine ah_is ?_; (fail_if_success first | refine ah_glit (b := true) rfl rfl rfl (by with_reducible rfl) ?_ | refine ah_glit (b := false) rfl rfl rfl (by with_reducible rfl) ?_); apply ah_gf; (exact rfl); (exact rfl); (exact rfl); exact f_a) | ((refine ao_is ?_; (fail_if_success first | refine ao_glit (b := true) rfl rfl (by with_reducible rfl) ?_ | refine ao_glit (b := false) rfl rfl (by with_reducible rfl) ?_)); apply ao_gf; (exact rfl); (exact rfl); exact f_a) | ((refine aq_is ?_; (fail_if_success first | refine aq_glit (b := true) rfl rfl (by with_reducible rfl) ?_ | refine aq_glit (b := false) rfl rfl (by with_reducible rfl) ?_)); apply aq_gf; (exact rfl); (exact rfl); exact f_a) | (apply aw_cf; (exact rfl); exact f_a)) | refine at_normal ?_ | refine at_exit ?_ | refine at_ret ?_ | refine ib_normal ?_ | refine ib_exit ?_ | refine ib_other ?_ | refine ib_ret ?_ | refine lq_exit ?_ | refine lq_ret ?_ | refine ci_ret ?_ | refine ci_exit ?_ | refine r1_ret rfl ?_ | refine r1_normal rfl ?_ | refine r2_ret rfl rfl ?_ | refine r2_normal rfl rfl ?_ | refine r3_ret rfl rfl rfl ?_ | refine r3_normal rfl rfl rfl ?_ | refine ng_normal ?_ | refine ng_exit ?_ | refine ng_ret ?_ | (apply rt_ret; (exact rfl); (exact rfl); (exact rfl); exact has_a; exact has_a; (exact rfl); (exact rfl)) | (apply rc1_ret; (exact rfl); exact has_a; (exact rfl)) | (apply rc2_ret; (exact rfl); exact has_a; (exact rfl); (exact rfl)) | (refine ao_is ?_; (fail_if_success first | refine ao_glit (b := true) rfl rfl (by with_reducible rfl) ?_ | refine ao_glit (b := false) rfl rfl (by with_reducible rfl) ?_); refine ao_gbool rfl rfl (fun _ => ?_) (fun _ => ?_)) | (refine aq_is ?_; (fail_if_success first | refine aq_glit (b := true) rfl rfl (by with_reducible rfl) ?_ | refine aq_glit (b := false) rfl rfl (by with_reducible rfl) ?_); refine aq_gbool rfl rfl (fun _ => ?_) (fun _ => ?_)) | (refine aw_is ?_; refine aw_cond rfl (fun _ => ?_) (fun _ => ?_)))
      exact ret_bool rfl
    · have e0 : (ver2 == over) = false := beq_eq_false_iff_ne.2 hv2
      rw [if_neg hv2]
      repeat' (first | (apply ao_nilh; exact hsub_a) | apply ao_nil | apply aq_nil | apply ah_end | ((first | apply ao_val | apply aq_val | (apply ah_take; (exact rfl))); exact wants_a; (first | exact ov_nilcheck rfl | exact hlo true rfl rfl | exact ov_a); (exact rfl)) | ((first | apply ao_skip | apply aq_skip | (apply ah_skip; (exact rfl))); exact nots_a; (exact rfl)) | (refine ao_is ?_; first | (apply ao_new; exact wants_a; exact on_a; (exact rfl); intro _) | (apply ao_store; exact wants_a; exact ow_a; exact upd_a) | (apply ao_valw; exact wants_a; exact ox_a; (exact rfl); exact upd_a) | (apply ao_skip0; exact nots_a) | (apply ao_append; exact wants_a; (exact rfl); assumption; (exact rfl); exact cut_a; exact has_a; (exact rfl); (exact rfl); omega; omega; omega; (exact rfl); intro vr lr hr)) | ((first | apply ao_call | apply aq_call); exact wants_a; (first | exact oc_func rfl | exact oc_clos rfl rfl | exact oc_bnd rfl rfl); (exact rfl); (first | exact fun w hw => hk w hw.below | exact fun w hw => h2 w hw.below)) | (apply ah_one; (exact rfl)) | (apply ah_two; (exact rfl); (exact rfl)) | (apply ah_three; (exact rfl); (exact rfl); (exact rfl)) | (refine aw_is ?_; first | (apply aw_held (id := 1) (pl := (.t 0 (.t 1 (.t 2 (.t 3 (.t 4 (.t 5 (.t 6 (.t 7 (.t 8 (.t 9 (.o 10 (.o 11 (.t 12 .e)))))))))))))); (kernel_rfl); (kernel_rfl); (kernel_rfl); (solve | (exact List.Sublist.refl _))) | refine aw_seq ?_ | refine aw_block ?_ | refine aw_region ?_ | refine aw_skip ?_ | refine aw_exit ?_ | refine aw_ret ?_ | refine aw_label ?_ | refine aw_scope ?_ | refine aw_cond_t rfl (by with_reducible rfl) ?_ | refine aw_cond_f rfl (by with_reducible rfl) ?_ | refine aw_draw (by kernel_rfl) (by kernel_rfl) ?_) | (first | (refine ah_is ?_; (fail_if_success first | refine ah_glit (b := true) rfl rfl rfl (by with_reducible rfl) ?_ | refine ah_glit (b := false) rfl rfl rfl (by with_reducible rfl) ?_); apply ah_gt; (exact rfl); (exact rfl); (exact rfl); exact t_a) | ((refine ao_is ?_; (fail_if_success first | refine ao_glit (b := true) rfl rfl (by with_reducible rfl) ?_ | refine ao_glit (b := false) rfl rfl (by with_reducible rfl) ?_)); apply ao_gt; (exact rfl); (exact rfl); exact t_a) | ((refine aq_is ?_; (fail_if_success first | refine aq_glit (b := true) rfl rfl (by with_reducible rfl) ?_ | refine aq_glit (b := false) rfl rfl (by with_reducible rfl) ?_)); apply aq_gt; (exact rfl); (exact rfl); exact t_a) | (apply aw_ct; (exact rfl); exact t_a)) | (first | (refine ah_is ?_; (fail_if_success first | refine ah_glit (b := true) rfl rfl rfl (by with_reducible rfl) ?_ | refine ah_glit (b := false) rfl rfl rfl (by with_reducible rfl) ?_); apply ah_gf; (exact rfl); (exact rfl); (exact rfl); exact f_a) | ((refine ao_is ?_; (fail_if_success first | refine ao_glit (b := true) rfl rfl (by with_reducible rfl) ?_ | refine ao_glit (b := false) rfl rfl (by with_reducible rfl) ?_)); apply ao_gf; (exact rfl); (exact rfl); exact f_a) | ((refine aq_is ?_; (fail_if_success first | refine aq_glit (b := true) rfl rfl (by with_reducible rfl) ?_ | refine aq_glit (b := false) rfl rfl (by with_reducible rfl) ?_)); apply aq_gf; (exact rfl); (exact rfl); exact f_a) | (apply aw_cf; (exact rfl); exact f_a)) | refine at_normal ?_ | refine at_exit ?_ | refine at_ret ?_ | refine ib_normal ?_ | refine ib_exit ?_ | refine ib_other ?_ | refine ib_ret ?_ | refine lq_exit ?_ | refine lq_ret ?_ | refine ci_ret ?_ | refine ci_exit ?_ | refine r1_ret rfl ?_ | refine r1_normal rfl ?_ | refine r2_ret rfl rfl ?_ | refine r2_normal rfl rfl ?_ | refine r3_ret rfl rfl rfl ?_ | refine r3_normal rfl rfl rfl ?_ | refine ng_normal ?_ | refine ng_exit ?_ | refine ng_ret ?_ | (apply rt_ret; (exact rfl); (exact rfl); (exact rfl); exact has_a; exact has_a; (exact rfl); (exact rfl)) | (apply rc1_ret; (exact rfl); exact has_a; (exact rfl)) | (apply rc2_ret; (exact rfl); exact has_a; (exact rfl); (exact rfl)) | (refine ao_is ?_; (fail_if_success first | refine ao_glit (b := true) rfl rfl (by with_reducible rfl) ?_ | refine ao_glit (b := false) rfl rfl (by with_reducible rfl) ?_); refine ao_gbool rfl rfl (fun _ => ?_) (fun _ => ?_)) | (refine aq_is ?_; (fail_if_success first | refine aq_glit (b := true) rfl rfl (by with_reducible rfl) ?_ | refine aq_glit (b := false) rfl rfl (by with_reducible rfl) ?_); refine aq_gbool rfl rfl (fun _ => ?_) (fun _ => ?_)) | (refine aw_is ?_; refine aw_cond rfl (fun _ => ?_) (fun _ => ?_)))
      exact ret_bool rfl
end
end Chm
end Go.Proofs.YtdakeicfhbggeaaGreat
