/- Objects as values, and which are gone through; conditions: none. -/
import Derived.Test.YtkjjlppfomidbaaGreatVput
import Derived.Test.YtkjjlppfomidbaaGreatSxk
import Derived.Test.YtkjjlppfomidbaaGreatTy
import Derived.Test.YtkjjlppfomidbaaGreatLabs
import Derived.Test.YtkjjlppfomidbaaGreatVwf
/- Oval: Objects as values, and which are gone through; conditions: none. -/
namespace Go.Proofs.YtkjjlppfomidbaaGreat
namespace Ojt
open Go Go.RowKit Sx Vec
attribute [local irreducible] Go.Calls
structure Ob where
  k : Nm
  s : Nm
  n : Nm
  ver : Int
  c : Nm
  tm : Bool
  bs : Bool
  rs : List Ent
instance (a b : Ob) : Decidable (a = b) :=
  decidable_of_iff (a.k = b.k ∧ a.s = b.s ∧ a.n = b.n ∧ a.ver = b.ver ∧ a.c = b.c ∧ a.tm = b.tm ∧ a.bs = b.bs ∧ a.rs = b.rs) ⟨fun h => by
    obtain ⟨h1, h2, h3, h4, h5, h6, h7, h8⟩ := h
    cases a; cases b
    simp_all, fun h => by subst h; exact ⟨rfl, rfl, rfl, rfl, rfl, rfl, rfl, rfl⟩⟩
abbrev OV (o : Ob) (v : Value) : Value := .agg #[S o.k, S o.s, S o.n, I o.ver, S o.c, .bool o.tm, .bool o.bs, v]
abbrev OC (k s n : Nm) (ver : Int) (c : Nm) (tm bs : Bool) (v : Value) : Value := .agg #[S k, S s, S n, I ver, S c, .bool tm, .bool bs, v]
def wfO (o : Ob) : Prop := o.k.length ≤ 100000 ∧ o.s.length ≤ 100000 ∧ o.n.length ≤ 100000 ∧ o.c.length ≤ 100000 ∧ wfR o.rs
def fitO (o : Ob) : Bool := decide (o.k.length ≤ 200 ∧ o.s.length ≤ 200 ∧ o.n.length ≤ 200 ∧ o.c.length ≤ 200 ∧ o.rs.length ≤ 40 ∧ ∀ r ∈ o.rs, r.1.length ≤ 200)
def numR (rs : List Ent) : Prop := ∀ r ∈ rs, -9223372036854775808 ≤ r.2 ∧ r.2 ≤ 9223372036854775807
theorem fit_wf {o : Ob} (h : fitO o = true) (hr : numR o.rs) : wfO o ∧ o.rs.length ≤ 40 := by
  unfold fitO at h
  obtain ⟨h1, h2, h3, h4, h5, h6⟩ := of_decide_eq_true h
  exact ⟨⟨by omega, by omega, by omega, by omega, by omega, fun r hm => ⟨by have := h6 r hm; omega, hr r hm⟩⟩, h5⟩
set_option maxHeartbeats 8000000 in
theorem fits_ok (o : Ob) (v : Value) (w : World) (hv : ResAt w v o.rs) : Calls Tryz.prog 28 #[OV o v] w fun e w' => e = .returned (.bool (fitO o)) ∧ Below w.heap.size w w' := by
  obtain ⟨k, s, n, ver, c, tm, bs, rs⟩ := o
  simp only at hv
  obtain ⟨a, cp, rfl, hat⟩ := OldRow.cells cellsR_len hv
  refine calls1 (args := [OC k s n ver c tm bs (.slice a rs.length cp)]) Tryz.func28 rfl rfl rfl rfl ?_
  have hno : ¬ (k.length ≤ 200 ∧ s.length ≤ 200 ∧ n.length ≤ 200 ∧ c.length ≤ 200 ∧ rs.length ≤ 40 ∧ ∀ r ∈ rs, r.1.length ≤ 200) → fitO ⟨k, s, n, ver, c, tm, bs, rs⟩ = false := fun h => decide_eq_false h
  by_cases h1 : k.length ≤ 200
  · by_cases h2 : s.length ≤ 200
    · by_cases h3 : n.length ≤ 200
      · by_cases h4 : c.length ≤ 200
        · by_cases h5 : rs.length ≤ 40
          · repeat' (first | refine aw_seq ?_ | refine zz ?_ | refine zon fun _ => ?_ | refine zoa fun vr lr hr => ?_ | refine zoS (fun _ => ?_) (fun _ => ?_) | refine zqS (fun _ => ?_) (fun _ => ?_) | refine zwS (fun _ => ?_) (fun _ => ?_))
            refine aw_for (t0 := [(1, .pointer (some ⟨_, 0, none⟩)), (3, I (0 : Nat))]) (fun q t H => ∃ (gb i : Nat), q = rs.length - i ∧ i ≤ rs.length ∧ (∀ (j : Nat) (r : Ent), j < i → rs[j]? = some r → r.1.length ≤ 200) ∧ t = [(1, .pointer (some ⟨gb, 0, none⟩)), (3, I i)] ∧ H = [(gb, .cells #[S k, S s, S n, I ver, S c, .bool tm, .bool bs, .slice a rs.length cp] 45)]) ⟨_, 0, rfl, by omega, fun j r h => by omega, rfl, rfl⟩ (by repeat (first | exact sub_nil | refine sub_cons rfl ?_)) ?_
            rintro q t H ⟨gb, i, rfl, hi, hall, rfl, rfl⟩
            by_cases hlt : i < rs.length
            · obtain ⟨r, he⟩ := getI hlt
              obtain ⟨g, o, rfl, hg, hc⟩ := hat i r (i : Int) he rfl
              obtain ⟨c0, -, -⟩ := res_cells hc
              by_cases h6 : r.1.length ≤ 200
              · repeat' (first | refine aw_seq ?_ | refine zz ?_ | refine zon fun _ => ?_ | refine zoa fun vr lr hr => ?_ | refine zoS (fun _ => ?_) (fun _ => ?_) | refine zqS (fun _ => ?_) (fun _ => ?_) | refine zwS (fun _ => ?_) (fun _ => ?_))
                exact lq_normal' ⟨gb, i + 1, rfl, by omega, fun j x hj hx2 => by
                  by_cases e1 : j = i
                  · subst e1; rw [he] at hx2; cases hx2; exact h6
                  · exact hall j x (by omega) hx2, rfl, rfl⟩ (by omega) (by repeat (first | exact sub_nil | refine sub_cons rfl ?_)) hsub_a
              · rw [hno fun h => h6 (h.2.2.2.2.2 r (List.mem_of_getElem? he))]
                repeat' (first | refine aw_seq ?_ | refine zz ?_ | refine zon fun _ => ?_ | refine zoa fun vr lr hr => ?_ | refine zoS (fun _ => ?_) (fun _ => ?_) | refine zqS (fun _ => ?_) (fun _ => ?_) | refine zwS (fun _ => ?_) (fun _ => ?_))
                exact fun w' hw => ⟨rfl, hw.below⟩
            · obtain rfl : i = rs.length := by omega
              have hq : fitO ⟨k, s, n, ver, c, tm, bs, rs⟩ = true := decide_eq_true ⟨h1, h2, h3, h4, h5, fun r hm => by
                obtain ⟨j, hj⟩ := List.getElem?_of_mem hm
                exact hall j r (List.getElem?_eq_some_iff.1 hj).1 hj⟩
              rw [hq]
              repeat' (first | refine aw_seq ?_ | refine zz ?_ | refine zon fun _ => ?_ | refine zoa fun vr lr hr => ?_ | refine zoS (fun _ => ?_) (fun _ => ?_) | refine zqS (fun _ => ?_) (fun _ => ?_) | refine zwS (fun _ => ?_) (fun _ => ?_))
              exact fun w' hw => ⟨rfl, hw.below⟩
          · rw [hno fun h => h5 h.2.2.2.2.1]
            repeat' (first | refine aw_seq ?_ | refine zz ?_ | refine zon fun _ => ?_ | refine zoa fun vr lr hr => ?_ | refine zoS (fun _ => ?_) (fun _ => ?_) | refine zqS (fun _ => ?_) (fun _ => ?_) | refine zwS (fun _ => ?_) (fun _ => ?_))
            exact fun w' hw => ⟨rfl, hw.below⟩
        · rw [hno fun h => h4 h.2.2.2.1]
          repeat' (first | refine aw_seq ?_ | refine zz ?_ | refine zon fun _ => ?_ | refine zoa fun vr lr hr => ?_ | refine zoS (fun _ => ?_) (fun _ => ?_) | refine zqS (fun _ => ?_) (fun _ => ?_) | refine zwS (fun _ => ?_) (fun _ => ?_))
          exact fun w' hw => ⟨rfl, hw.below⟩
      · rw [hno fun h => h3 h.2.2.1]
        repeat' (first | refine aw_seq ?_ | refine zz ?_ | refine zon fun _ => ?_ | refine zoa fun vr lr hr => ?_ | refine zoS (fun _ => ?_) (fun _ => ?_) | refine zqS (fun _ => ?_) (fun _ => ?_) | refine zwS (fun _ => ?_) (fun _ => ?_))
        exact fun w' hw => ⟨rfl, hw.below⟩
    · rw [hno fun h => h2 h.2.1]
      repeat' (first | refine aw_seq ?_ | refine zz ?_ | refine zon fun _ => ?_ | refine zoa fun vr lr hr => ?_ | refine zoS (fun _ => ?_) (fun _ => ?_) | refine zqS (fun _ => ?_) (fun _ => ?_) | refine zwS (fun _ => ?_) (fun _ => ?_))
      exact fun w' hw => ⟨rfl, hw.below⟩
  · rw [hno fun h => h1 h.1]
    repeat' (first | refine aw_seq ?_ | refine zz ?_ | refine zon fun _ => ?_ | refine zoa fun vr lr hr => ?_ | refine zoS (fun _ => ?_) (fun _ => ?_) | refine zqS (fun _ => ?_) (fun _ => ?_) | refine zwS (fun _ => ?_) (fun _ => ?_))
    exact fun w' hw => ⟨rfl, hw.below⟩
end Ojt
end Go.Proofs.YtkjjlppfomidbaaGreat
/- Oobj: Objects: contracts of the document's answer and of the landed code; conditions: names of at most 100,000 bytes, at most 100,000 resources. -/
namespace Go.Proofs.YtkjjlppfomidbaaGreat
namespace Ojt
open Go Go.RowKit Sx Lab Vec
attribute [local irreducible] Go.Calls
def resAt (rs : List Ent) (i : Nat) : Bool :=
  match rs[i]? with
  | none => true
  | some r => rightB r.1 && decide (0 ≤ r.2) && (match i with
    | 0 => true
    | j + 1 => match rs[j]? with
      | none => true
      | some p => lt p.1 r.1)
def resB (rs : List Ent) : Bool := decide (rs.length ≤ 16) && (List.range rs.length).all (resAt rs)
theorem res_f {rs : List Ent} {i : Nat} (hi : i < rs.length) (h : resAt rs i = false) : resB rs = false := by
  unfold resB
  rw [show (List.range rs.length).all (resAt rs) = false from List.all_eq_false.2 ⟨i, List.mem_range.2 hi, by rw [h]; decide⟩]
  exact Bool.and_false _
theorem res_t {rs : List Ent} (hl : rs.length ≤ 16) (h : ∀ j, j < rs.length → resAt rs j = true) : resB rs = true := by
  unfold resB
  rw [show (List.range rs.length).all (resAt rs) = true from List.all_eq_true.2 fun j hj => h j (List.mem_range.1 hj), decide_eq_true hl]
  rfl
def rightO (o : Ob) : Bool := keyB o.k o.s o.n && (decide (1 ≤ o.ver) && ((o.c == [] || rightB o.c) && resB o.rs))
set_option maxHeartbeats 8000000 in
theorem resources_ok (v : Value) (rs : List Ent) (hwf : wfR rs) (w : World) (hv : ResAt w v rs) : Calls Tryz.prog 173 #[v] w fun e w' => e = .returned (.bool (resB rs)) ∧ Below w.heap.size w w' := by
  have hln := hwf.1
  obtain ⟨a, c, rfl, hat⟩ := OldRow.cells cellsR_len hv
  refine calls1 (args := [.slice a rs.length c]) Tryz.func173 rfl rfl rfl rfl ?_
  by_cases h16 : rs.length ≤ 16
  · repeat' (first | refine aw_seq ?_ | refine zz ?_ | refine zon fun _ => ?_ | refine zoa fun vr lr hr => ?_ | refine zoS (fun _ => ?_) (fun _ => ?_) | refine zqS (fun _ => ?_) (fun _ => ?_) | refine zwS (fun _ => ?_) (fun _ => ?_))
    refine aw_for (t0 := [(0, .slice a rs.length c), (8, I rs.length), (9, I (0 : Nat))]) (fun q t H => ∃ i : Nat, q = rs.length - i ∧ i ≤ rs.length ∧ (∀ j, j < i → resAt rs j = true) ∧ t = [(0, .slice a rs.length c), (8, I rs.length), (9, I i)] ∧ H = []) ⟨0, rfl, by omega, fun j hj => by omega, rfl, rfl⟩ (by repeat (first | exact sub_nil | refine sub_cons rfl ?_)) ?_
    rintro q t H ⟨i, rfl, hi, hall, rfl, rfl⟩
    by_cases hlt : i < rs.length
    · obtain ⟨r, he⟩ := getI hlt
      obtain ⟨g, o, rfl, hg, hc⟩ := hat i r (i : Int) he rfl
      obtain ⟨c0, c1, -⟩ := res_cells hc
      have hrr := fun w => Lab.right_ok r.1 w
      cases hr : rightB r.1
      · rw [res_f hlt (by unfold resAt; rw [he]; simp [hr])]
        rw [hr] at hrr
        repeat' (first | refine aw_seq ?_ | refine zz ?_ | refine zon fun _ => ?_ | refine zoa fun vr lr hr => ?_ | ((first | apply ao_call | apply aq_call); exact wants_a; (first | exact oc_func rfl | exact oc_clos rfl rfl | exact oc_bnd rfl rfl); (exact rfl); (first | exact fun w hw => hrr w)) | refine zoS (fun _ => ?_) (fun _ => ?_) | refine zqS (fun _ => ?_) (fun _ => ?_) | refine zwS (fun _ => ?_) (fun _ => ?_))
        exact fun w' hw => ⟨rfl, hw.below⟩
      rw [hr] at hrr
      by_cases hn : r.2 < 0
      · rw [res_f hlt (by unfold resAt; rw [he]; simp [show ¬ (0 ≤ r.2) by omega])]
        repeat' (first | refine aw_seq ?_ | refine zz ?_ | refine zon fun _ => ?_ | refine zoa fun vr lr hr => ?_ | ((first | apply ao_call | apply aq_call); exact wants_a; (first | exact oc_func rfl | exact oc_clos rfl rfl | exact oc_bnd rfl rfl); (exact rfl); (first | exact fun w hw => hrr w)) | refine zoS (fun _ => ?_) (fun _ => ?_) | refine zqS (fun _ => ?_) (fun _ => ?_) | refine zwS (fun _ => ?_) (fun _ => ?_))
        exact fun w' hw => ⟨rfl, hw.below⟩
      cases i with
      | zero =>
        have hok : resAt rs 0 = true := by unfold resAt; rw [he]; simp [hr, show 0 ≤ r.2 by omega]
        repeat' (first | refine aw_seq ?_ | refine zz ?_ | refine zon fun _ => ?_ | refine zoa fun vr lr hr => ?_ | ((first | apply ao_call | apply aq_call); exact wants_a; (first | exact oc_func rfl | exact oc_clos rfl rfl | exact oc_bnd rfl rfl); (exact rfl); (first | exact fun w hw => hrr w)) | refine zoS (fun _ => ?_) (fun _ => ?_) | refine zqS (fun _ => ?_) (fun _ => ?_) | refine zwS (fun _ => ?_) (fun _ => ?_))
        exact lq_normal ⟨1, rfl, by omega, fun j hj => (show 0 = j by omega) ▸ hok, rfl, rfl⟩ (by omega) (by repeat (first | exact sub_nil | refine sub_cons rfl ?_))
      | succ i =>
        obtain ⟨p, hp⟩ := getI (show i < rs.length by omega)
        obtain ⟨g', o', e1, -, hd⟩ := hat i p (((i + 1 : Nat) : Int) - 1) hp (by omega)
        cases e1
        obtain ⟨d0, -, -⟩ := res_cells hd
        cases hl : lt p.1 r.1
        · rw [res_f hlt (by unfold resAt; rw [he]; simp [hp, hl])]
          have hlb : (Op.bytesLess r.1 p.1 || r.1 == p.1) = true := by rw [leq_lt, hl]; rfl
          repeat' (first | refine aw_seq ?_ | refine zz ?_ | refine zon fun _ => ?_ | refine zoa fun vr lr hr => ?_ | ((first | apply ao_call | apply aq_call); exact wants_a; (first | exact oc_func rfl | exact oc_clos rfl rfl | exact oc_bnd rfl rfl); (exact rfl); (first | exact fun w hw => hrr w)) | refine zoS (fun _ => ?_) (fun _ => ?_) | refine zqS (fun _ => ?_) (fun _ => ?_) | refine zwS (fun _ => ?_) (fun _ => ?_))
          exact fun w' hw => ⟨rfl, hw.below⟩
        · have hok : resAt rs (i + 1) = true := by unfold resAt; rw [he]; simp [hr, hp, hl, show 0 ≤ r.2 by omega]
          have hlb : (Op.bytesLess r.1 p.1 || r.1 == p.1) = false := by rw [leq_lt, hl]; rfl
          repeat' (first | refine aw_seq ?_ | refine zz ?_ | refine zon fun _ => ?_ | refine zoa fun vr lr hr => ?_ | ((first | apply ao_call | apply aq_call); exact wants_a; (first | exact oc_func rfl | exact oc_clos rfl rfl | exact oc_bnd rfl rfl); (exact rfl); (first | exact fun w hw => hrr w)) | refine zoS (fun _ => ?_) (fun _ => ?_) | refine zqS (fun _ => ?_) (fun _ => ?_) | refine zwS (fun _ => ?_) (fun _ => ?_))
          exact lq_normal ⟨i + 2, rfl, by omega, fun j hj => by
            by_cases e1 : j = i + 1
            · subst e1; exact hok
            · exact hall j (by omega), rfl, rfl⟩ (by omega) (by repeat (first | exact sub_nil | refine sub_cons rfl ?_))
    · obtain rfl : i = rs.length := by omega
      rw [res_t h16 hall]
      repeat' (first | refine aw_seq ?_ | refine zz ?_ | refine zon fun _ => ?_ | refine zoa fun vr lr hr => ?_ | refine zoS (fun _ => ?_) (fun _ => ?_) | refine zqS (fun _ => ?_) (fun _ => ?_) | refine zwS (fun _ => ?_) (fun _ => ?_))
      exact fun w' hw => ⟨rfl, hw.below⟩
  · rw [show resB rs = false by unfold resB; rw [decide_eq_false h16]; rfl]
    repeat' (first | refine aw_seq ?_ | refine zz ?_ | refine zon fun _ => ?_ | refine zoa fun vr lr hr => ?_ | refine zoS (fun _ => ?_) (fun _ => ?_) | refine zqS (fun _ => ?_) (fun _ => ?_) | refine zwS (fun _ => ?_) (fun _ => ?_))
    exact fun w' hw => ⟨rfl, hw.below⟩
set_option maxHeartbeats 4000000 in
theorem right_ok (o : Ob) (v : Value) (hwf : wfO o) (w : World) (hv : ResAt w v o.rs) : Calls Tryz.prog 157 #[OV o v] w fun e w' => e = .returned (.bool (rightO o)) ∧ Below w.heap.size w w' := by
  obtain ⟨k, s, n, ver, c, tm, bs, rs⟩ := o
  refine calls1 (args := [OC k s n ver c tm bs v]) Tryz.func157 rfl rfl rfl rfl ?_
  repeat' (first | refine aw_seq ?_ | refine zz ?_ | refine zon fun _ => ?_ | refine zoa fun vr lr hr => ?_ | ((first | apply ao_call | apply aq_call); exact wants_a; (first | exact oc_func rfl | exact oc_clos rfl rfl | exact oc_bnd rfl rfl); (exact rfl); (first | exact fun w hw => Lab.key_ok k s n w | exact fun w hw => Lab.right_ok c w | exact fun w hw => resources_ok v rs hwf.2.2.2.2 w (hv.below hw.below))) | refine zoS (fun _ => ?_) (fun _ => ?_) | refine zqS (fun _ => ?_) (fun _ => ?_) | refine zwS (fun _ => ?_) (fun _ => ?_))
  all_goals (refine ret_bool ?_; simp_all [rightO] <;> (intros; omega))
set_option maxHeartbeats 16000000 in
theorem rright_ok (o : Ob) (v : Value) (hwf : wfO o) (w : World) (hv : ResAt w v o.rs) : Calls Tryz.prog 37 #[OV o v] w fun e w' => e = .returned (.bool (rightO o)) ∧ Below w.heap.size w w' := by
  obtain ⟨k, s, n, ver, c, tm, bs, rs⟩ := o
  obtain ⟨hk, hs, hn, hcl, hwr⟩ := hwf
  have hln := hwr.1
  simp only at hk hs hn hcl hwr hln hv
  obtain ⟨a, cp, rfl, hat⟩ := OldRow.cells cellsR_len hv
  refine calls1 (args := [OC k s n ver c tm bs (.slice a rs.length cp)]) Tryz.func37 rfl rfl rfl rfl ?_
  repeat' (first | refine aw_cutI_at (id := 5) (fun t H => (keyB k s n = true ∧ (c == [] || rightB c) = true ∧ 1 ≤ ver ∧ rs.length ≤ 16) ∧ ∃ gb, t = [(1, .pointer (some ⟨gb, 0, none⟩))] ∧ H = [(gb, .cells #[S k, S s, S n, I ver, S c, .bool tm, .bool bs, .slice a rs.length cp] 45)]) ?_ ?_ | refine aw_cutI_at2 (id := 5) (fun t H => (keyB k s n = true ∧ (c == [] || rightB c) = true ∧ 1 ≤ ver ∧ rs.length ≤ 16) ∧ ∃ gb, t = [(1, .pointer (some ⟨gb, 0, none⟩))] ∧ H = [(gb, .cells #[S k, S s, S n, I ver, S c, .bool tm, .bool bs, .slice a rs.length cp] 45)]) ?_ ?_ | refine aw_seq ?_ | refine zz ?_ | refine zon fun _ => ?_ | refine zoa fun vr lr hr => ?_ | ((first | apply ao_call | apply aq_call); exact wants_a; (first | exact oc_func rfl | exact oc_clos rfl rfl | exact oc_bnd rfl rfl); (exact rfl); (first | exact fun w hw => Lab.rkey_ok k s n hk hs hn w | exact fun w hw => Lab.rright_ok c (by omega) w)) | refine zoS (fun _ => ?_) (fun _ => ?_) | refine zqS (fun _ => ?_) (fun _ => ?_) | refine zwS (fun _ => ?_) (fun _ => ?_))
  all_goals first
    | (refine ret_bool ?_; clear hat hv; simp_all [rightO, resB]; done)
    | (refine ret_bool ?_; clear hat hv; simp_all [rightO, resB]; intros; omega)
    | exact ci_normal ⟨⟨by clear hat hv; simp_all, by clear hat hv; simp_all, by clear hat hv; simp_all <;> omega, by clear hat hv; simp_all <;> omega⟩, _, rfl, rfl⟩ (by repeat (first | exact sub_nil | refine sub_cons rfl ?_)) hsub_a
    | skip
  rintro t H ⟨⟨hk1, hc1, hv1, h16⟩, gb, rfl, rfl⟩
  have hq : rightO ⟨k, s, n, ver, c, tm, bs, rs⟩ = resB rs := by unfold rightO; simp only [hk1, hc1, decide_eq_true hv1, Bool.true_and]
  rw [hq]
  repeat' (first | refine aw_seq ?_ | refine zz ?_ | refine zon fun _ => ?_ | refine zoa fun vr lr hr => ?_ | refine zoS (fun _ => ?_) (fun _ => ?_) | refine zqS (fun _ => ?_) (fun _ => ?_) | refine zwS (fun _ => ?_) (fun _ => ?_))
  refine aw_for (t0 := [(1, .pointer (some ⟨gb, 0, none⟩)), (5, I (0 : Nat))]) (fun q t H => ∃ i : Nat, q = rs.length - i ∧ i ≤ rs.length ∧ (∀ j, j < i → resAt rs j = true) ∧ t = [(1, .pointer (some ⟨gb, 0, none⟩)), (5, I i)] ∧ H = [(gb, .cells #[S k, S s, S n, I ver, S c, .bool tm, .bool bs, .slice a rs.length cp] 45)]) ⟨0, rfl, by omega, fun j hj => by omega, rfl, rfl⟩ (by repeat (first | exact sub_nil | refine sub_cons rfl ?_)) ?_
  rintro q t H ⟨i, rfl, hi, hall, rfl, rfl⟩
  by_cases hlt : i < rs.length
  · obtain ⟨r, he⟩ := getI hlt
    obtain ⟨g, o, rfl, hg, hc⟩ := hat i r (i : Int) he rfl
    obtain ⟨c0, c1, -⟩ := res_cells hc
    have hwe := (hwr.at he).1
    have hrr := fun w => Lab.rright_ok r.1 (by omega) w
    cases hr : rightB r.1
    · rw [res_f hlt (by unfold resAt; rw [he]; simp [hr])]
      rw [hr] at hrr
      repeat' (first | refine aw_seq ?_ | refine zz ?_ | refine zon fun _ => ?_ | refine zoa fun vr lr hr => ?_ | ((first | apply ao_call | apply aq_call); exact wants_a; (first | exact oc_func rfl | exact oc_clos rfl rfl | exact oc_bnd rfl rfl); (exact rfl); (first | exact fun w hw => hrr w)) | refine zoS (fun _ => ?_) (fun _ => ?_) | refine zqS (fun _ => ?_) (fun _ => ?_) | refine zwS (fun _ => ?_) (fun _ => ?_))
      exact fun w' hw => ⟨rfl, hw.below⟩
    rw [hr] at hrr
    by_cases hn : r.2 < 0
    · rw [res_f hlt (by unfold resAt; rw [he]; simp [show ¬ (0 ≤ r.2) by omega])]
      repeat' (first | refine aw_seq ?_ | refine zz ?_ | refine zon fun _ => ?_ | refine zoa fun vr lr hr => ?_ | ((first | apply ao_call | apply aq_call); exact wants_a; (first | exact oc_func rfl | exact oc_clos rfl rfl | exact oc_bnd rfl rfl); (exact rfl); (first | exact fun w hw => hrr w)) | refine zoS (fun _ => ?_) (fun _ => ?_) | refine zqS (fun _ => ?_) (fun _ => ?_) | refine zwS (fun _ => ?_) (fun _ => ?_))
      exact fun w' hw => ⟨rfl, hw.below⟩
    cases i with
    | zero =>
      have hok : resAt rs 0 = true := by unfold resAt; rw [he]; simp [hr, show 0 ≤ r.2 by omega]
      repeat' (first | refine aw_seq ?_ | refine zz ?_ | refine zon fun _ => ?_ | refine zoa fun vr lr hr => ?_ | ((first | apply ao_call | apply aq_call); exact wants_a; (first | exact oc_func rfl | exact oc_clos rfl rfl | exact oc_bnd rfl rfl); (exact rfl); (first | exact fun w hw => hrr w)) | refine zoS (fun _ => ?_) (fun _ => ?_) | refine zqS (fun _ => ?_) (fun _ => ?_) | refine zwS (fun _ => ?_) (fun _ => ?_))
      exact lq_normal' ⟨1, rfl, by omega, fun j hj => (show 0 = j by omega) ▸ hok, rfl, rfl⟩ (by omega) (by repeat (first | exact sub_nil | refine sub_cons rfl ?_)) hsub_a
    | succ i =>
      obtain ⟨p, hp⟩ := getI (show i < rs.length by omega)
      obtain ⟨g', o', e1, -, hd⟩ := hat i p (((i + 1 : Nat) : Int) - 1) hp (by omega)
      cases e1
      obtain ⟨d0, -, -⟩ := res_cells hd
      have hwp := (hwr.at hp).1
      have hbf := fun w => Lab.before_ok p.1 r.1 hwp hwe w
      cases hl : lt p.1 r.1
      · rw [res_f hlt (by unfold resAt; rw [he]; simp [hp, hl])]
        rw [show Op.bytesLess p.1 r.1 = _ from hl] at hbf
        repeat' (first | refine aw_seq ?_ | refine zz ?_ | refine zon fun _ => ?_ | refine zoa fun vr lr hr => ?_ | ((first | apply ao_call | apply aq_call); exact wants_a; (first | exact oc_func rfl | exact oc_clos rfl rfl | exact oc_bnd rfl rfl); (exact rfl); (first | exact fun w hw => hrr w | exact fun w hw => hbf w)) | refine zoS (fun _ => ?_) (fun _ => ?_) | refine zqS (fun _ => ?_) (fun _ => ?_) | refine zwS (fun _ => ?_) (fun _ => ?_))
        exact fun w' hw => ⟨rfl, hw.below⟩
      · have hok : resAt rs (i + 1) = true := by unfold resAt; rw [he]; simp [hr, hp, hl, show 0 ≤ r.2 by omega]
        rw [show Op.bytesLess p.1 r.1 = _ from hl] at hbf
        repeat' (first | refine aw_seq ?_ | refine zz ?_ | refine zon fun _ => ?_ | refine zoa fun vr lr hr => ?_ | ((first | apply ao_call | apply aq_call); exact wants_a; (first | exact oc_func rfl | exact oc_clos rfl rfl | exact oc_bnd rfl rfl); (exact rfl); (first | exact fun w hw => hrr w | exact fun w hw => hbf w)) | refine zoS (fun _ => ?_) (fun _ => ?_) | refine zqS (fun _ => ?_) (fun _ => ?_) | refine zwS (fun _ => ?_) (fun _ => ?_))
        exact lq_normal' ⟨i + 2, rfl, by omega, fun j hj => by
          by_cases e1 : j = i + 1
          · subst e1; exact hok
          · exact hall j (by omega), rfl, rfl⟩ (by omega) (by repeat (first | exact sub_nil | refine sub_cons rfl ?_)) hsub_a
  · obtain rfl : i = rs.length := by omega
    rw [res_t h16 hall]
    repeat' (first | refine aw_seq ?_ | refine zz ?_ | refine zon fun _ => ?_ | refine zoa fun vr lr hr => ?_ | refine zoS (fun _ => ?_) (fun _ => ?_) | refine zqS (fun _ => ?_) (fun _ => ?_) | refine zwS (fun _ => ?_) (fun _ => ?_))
    exact fun w' hw => ⟨rfl, hw.below⟩
end Ojt
end Go.Proofs.YtkjjlppfomidbaaGreat
/- Ochg: The charge of an object, and the object with a list of its own; the document's answers; conditions: names of at most 100,000 bytes, at most 100,000 resources. -/
namespace Go.Proofs.YtkjjlppfomidbaaGreat
namespace Ojt
open Go Go.RowKit Sx Wid Lab Vec
attribute [local irreducible] Go.Calls
abbrev nObj : Nm := [111, 98, 106, 101, 99, 116, 115]
abbrev U2 (n : Int) : Value := .int .u64 n
def chargeO (o : Ob) : List Ent × Int := if rightO o = true then combV false (ofV o.rs).1 [([111, 98, 106, 101, 99, 116, 115], 1)] else ([], 1)
theorem one_r : rcells [(nObj, 1)] = [S nObj, I 1] := by kernel_rfl
theorem one_v : vcells [(nObj, 1)] = [S nObj, I 0, U2 1] := by kernel_rfl
theorem of_one : ofV [(nObj, 1)] = ([(nObj, 1)], 0) := by kernel_rfl
theorem w_one : wfV [(nObj, 1)] ∧ wfR [(nObj, 1)] ∧ [((nObj, 1) : Ent)].length ≤ 1000 := wf_of (by kernel_rfl)
theorem one_ok (b : Nat) (w : World) (h : OldRow w 2 (.slice (some ⟨b, 0, none⟩) 1 1) 1 [S nObj, I 1]) :
    Calls Tryz.prog 174 #[.slice (some ⟨b, 0, none⟩) 1 1] w fun e w' => ∃ r, e = .returned (.tuple #[r, I 0]) ∧ NewRow 96 3 w w' r [((nObj, 1) : Ent)].length (vcells [(nObj, 1)]) := by
  have := pof_ok _ [(nObj, 1)] w_one.2.1 w (one_r ▸ h)
  rw [of_one] at this
  exact this
set_option maxHeartbeats 8000000 in
theorem charge_ok (o : Ob) (v : Value) (hwf : wfO o) (w : World) (hv : ResAt w v o.rs) :
    Calls Tryz.prog 158 #[OV o v] w fun e w' => ∃ r, e = .returned (.tuple #[r, I (chargeO o).2]) ∧ NewRow 96 3 w w' r (chargeO o).1.length (vcells (chargeO o).1) := by
  have hr := fun w' (hb : Below w.heap.size w w') => right_ok o v hwf w' (hv.below hb)
  unfold chargeO
  obtain ⟨k, s, n, ver, c, tm, bs, rs⟩ := o
  refine calls2 (args := [OC k s n ver c tm bs v]) Tryz.func158 rfl rfl rfl rfl ?_
  cases hq : rightO ⟨k, s, n, ver, c, tm, bs, rs⟩
  · rw [hq] at hr
    rw [if_neg (by decide)]
    repeat' (first | refine aw_seq ?_ | refine zz ?_ | refine zon fun _ => ?_ | refine zoa fun vr lr hr => ?_ | ((first | apply ao_call | apply aq_call); exact wants_a; (first | exact oc_func rfl | exact oc_clos rfl rfl | exact oc_bnd rfl rfl); (exact rfl); (first | exact fun w hw => hr w hw.below)) | refine zoS (fun _ => ?_) (fun _ => ?_) | refine zqS (fun _ => ?_) (fun _ => ?_) | refine zwS (fun _ => ?_) (fun _ => ?_))
    exact fun w' hw => ⟨_, rfl, hw.below, _, RowB.nil, fun _ _ h => by cases h⟩
  · rw [hq] at hr
    rw [if_pos rfl]
    obtain ⟨q1, q2⟩ := of_wf hwf.2.2.2.2
    have ho := fun w' (hb : Below w.heap.size w w') => pof_ok v rs hwf.2.2.2.2 w' (hv.below hb)
    simp only at ho q1 q2 ⊢
    generalize ofV rs = x at ho q1 q2
    obtain ⟨xs, e⟩ := x
    simp only at ho q1 q2 ⊢
    repeat' (first | refine aw_seq ?_ | refine zz ?_ | refine zon fun _ => ?_ | refine zoa fun vr lr hr => ?_ | ((first | apply ao_call | apply aq_call); exact wants_a; (first | exact oc_func rfl | exact oc_clos rfl rfl | exact oc_bnd rfl rfl); (exact rfl); (first | exact fun w hw => hr w hw.below)) | (apply ao_callr2; exact wants_a; (exact oc_func rfl); (exact rfl); (first | exact fun w hw => ho w hw.below); intro vr lr hr) | refine zoS (fun _ => ?_) (fun _ => ?_) | refine zqS (fun _ => ?_) (fun _ => ?_) | refine zwS (fun _ => ?_) (fun _ => ?_))
    revert vr lr hr
    intro v1 k1 r1
    repeat' (first | refine aw_seq ?_ | refine zz ?_ | refine zon fun _ => ?_ | refine zoa fun vr lr hr => ?_ | (apply ao_callr2; exact wants_a; (exact oc_func rfl); (exact rfl); (first | (intro w hw; refine one_ok _ w ?_; exact hw.oldr (RowB.lit rfl) cut_a)); intro vr lr hr) | refine zoS (fun _ => ?_) (fun _ => ?_) | refine zqS (fun _ => ?_) (fun _ => ?_) | refine zwS (fun _ => ?_) (fun _ => ?_))
    revert vr lr hr
    intro v2 k2 r2
    repeat' (first | refine aw_seq ?_ | refine zz ?_ | refine zon fun _ => ?_ | refine zoa fun vr lr hr => ?_ | (apply ao_callr2; exact wants_a; (exact oc_func rfl); (exact rfl); (first | (intro w hw; refine padd_ok _ _ xs [(nObj, 1)] q1 w_one.1 (by omega) (Nat.le_trans w_one.2.2 (by omega)) w ?_ ?_; exact RepH.capr hw r1 cut_a; exact RepH.capr hw r2 cut_a)); intro vr lr hr) | refine zoS (fun _ => ?_) (fun _ => ?_) | refine zqS (fun _ => ?_) (fun _ => ?_) | refine zwS (fun _ => ?_) (fun _ => ?_))
    exact fun w' hw => ⟨_, rfl, hw.below, _, by assumption, fun b o hm => hw.at_ b o (List.mem_append_left _ hm)⟩
theorem radd1_ok (v : Value) (b : Nat) (xs : List Ent) (q1 : wfV xs) (q2 : xs.length ≤ 1000) (w : World) (hv : VecAt w v xs) (h : OldRow w 3 (.slice (some ⟨b, 0, none⟩) 1 1) 1 [S nObj, I 0, U2 1]) :
    Calls Tryz.prog 20 #[v, .slice (some ⟨b, 0, none⟩) 1 1] w fun e w' => ∃ r, e = .returned (.tuple #[r, I (combV false xs [(nObj, 1)]).2]) ∧ NewRow 96 3 w w' r (combV false xs [(nObj, 1)]).1.length (vcells (combV false xs [(nObj, 1)]).1) :=
  vadd_ok _ _ xs [(nObj, 1)] q1 w_one.1 (by omega) (Nat.le_trans w_one.2.2 (by omega)) w hv (by unfold VecAt; rw [one_v]; exact h)
set_option maxHeartbeats 8000000 in
theorem rcharge_ok (o : Ob) (v : Value) (hwf : wfO o) (w : World) (hv : ResAt w v o.rs) :
    Calls Tryz.prog 70 #[OV o v] w fun e w' => ∃ r, e = .returned (.tuple #[r, I (chargeO o).2]) ∧ NewRow 96 3 w w' r (chargeO o).1.length (vcells (chargeO o).1) := by
  have hr := fun w' (hb : Below w.heap.size w w') => rright_ok o v hwf w' (hv.below hb)
  unfold chargeO
  obtain ⟨k, s, n, ver, c, tm, bs, rs⟩ := o
  refine calls2 (args := [OC k s n ver c tm bs v]) Tryz.func70 rfl rfl rfl rfl ?_
  cases hq : rightO ⟨k, s, n, ver, c, tm, bs, rs⟩
  · rw [hq] at hr
    rw [if_neg (by decide)]
    repeat' (first | refine aw_seq ?_ | refine zz ?_ | refine zon fun _ => ?_ | refine zoa fun vr lr hr => ?_ | ((first | apply ao_call | apply aq_call); exact wants_a; (first | exact oc_func rfl | exact oc_clos rfl rfl | exact oc_bnd rfl rfl); (exact rfl); (first | exact fun w hw => hr w hw.below)) | refine zoS (fun _ => ?_) (fun _ => ?_) | refine zqS (fun _ => ?_) (fun _ => ?_) | refine zwS (fun _ => ?_) (fun _ => ?_))
    exact fun w' hw => ⟨_, rfl, hw.below, _, RowB.nil, fun _ _ h => by cases h⟩
  · rw [hq] at hr
    rw [if_pos rfl]
    obtain ⟨q1, q2⟩ := of_wf hwf.2.2.2.2
    have ho := fun w' (hb : Below w.heap.size w w') => vof_ok v rs hwf.2.2.2.2 w' (hv.below hb)
    simp only at ho q1 q2 ⊢
    generalize ofV rs = x at ho q1 q2
    obtain ⟨xs, e⟩ := x
    simp only at ho q1 q2 ⊢
    repeat' (first | refine aw_seq ?_ | refine zz ?_ | refine zon fun _ => ?_ | refine zoa fun vr lr hr => ?_ | ((first | apply ao_call | apply aq_call); exact wants_a; (first | exact oc_func rfl | exact oc_clos rfl rfl | exact oc_bnd rfl rfl); (exact rfl); (first | exact fun w hw => hr w hw.below)) | (apply ao_callr2; exact wants_a; (exact oc_func rfl); (exact rfl); (first | exact fun w hw => ho w hw.below); intro vr lr hr) | refine zoS (fun _ => ?_) (fun _ => ?_) | refine zqS (fun _ => ?_) (fun _ => ?_) | refine zwS (fun _ => ?_) (fun _ => ?_))
    revert vr lr hr
    intro v1 k1 r1
    repeat' (first | refine aw_seq ?_ | refine zz ?_ | refine zon fun _ => ?_ | refine zoa fun vr lr hr => ?_ | (apply ao_callr2; exact wants_a; (exact oc_func rfl); (exact rfl); (first | (intro w hw; refine radd1_ok _ _ xs q1 (by omega) w ?_ ?_; exact hw.oldr r1 cut_a; exact hw.oldr (RowB.lit rfl) cut_a)); intro vr lr hr) | refine zoS (fun _ => ?_) (fun _ => ?_) | refine zqS (fun _ => ?_) (fun _ => ?_) | refine zwS (fun _ => ?_) (fun _ => ?_))
    exact fun w' hw => ⟨_, rfl, hw.below, _, by assumption, fun b o hm => hw.at_ b o (List.mem_append_left _ hm)⟩
end Ojt
end Go.Proofs.YtkjjlppfomidbaaGreat
/- Omor: What the charge of an object that may be has of each name; conditions: none. -/
namespace Go.Proofs.YtkjjlppfomidbaaGreat
namespace Ojt
open Go Go.RowKit Sx Wid Lab Vec
def sumN : List Ent → Nm → Int
  | [], _ => 0
  | r :: rs, m => (if r.1 = m then r.2 else 0) + sumN rs m
theorem sum_rng (m : Nm) : ∀ {rs : List Ent}, (∀ r ∈ rs, 0 ≤ r.2 ∧ r.2 ≤ 9223372036854775807) → 0 ≤ sumN rs m ∧ sumN rs m ≤ (rs.length : Int) * 9223372036854775807
  | [], _ => by unfold sumN; simp
  | r :: rs, h => by
    have h1 := h r List.mem_cons_self
    have h2 := sum_rng m fun x hx => h x (List.mem_cons_of_mem r hx)
    unfold sumN
    rw [List.length_cons]
    split <;> omega
theorem fold_get : ∀ (rs outs : List Ent), Rise outs → Rise (rs.foldl addR outs) ∧ ∀ m, getV (rs.foldl addR outs) m = getV outs m + sumN rs m
  | [], outs, h => ⟨h, fun m => by show getV outs m = getV outs m + 0; omega⟩
  | r :: rs, outs, h => by
    obtain ⟨h1, h2⟩ := fold_get rs (addR outs r) (put_rise h)
    refine ⟨h1, fun m => ?_⟩
    rw [List.foldl_cons, h2]
    have hs : sumN (r :: rs) m = (if r.1 = m then r.2 else 0) + sumN rs m := rfl
    rw [hs]
    unfold addR
    rw [put_get h]
    by_cases e : r.1 = m
    · rw [if_pos e.symm, if_pos e, e]
      omega
    · rw [if_neg fun x => e x.symm, if_neg e]
      omega
theorem fold_mem : ∀ (rs outs : List Ent), (∀ e ∈ outs, rightB e.1 = true ∧ e.2 ≠ 0) → (∀ r ∈ rs, rightB r.1 = true) → ∀ e ∈ rs.foldl addR outs, rightB e.1 = true ∧ e.2 ≠ 0
  | [], _, h, _ => h
  | r :: rs, outs, h, g => by
    rw [List.foldl_cons]
    refine fold_mem rs (addR outs r) (fun e he => ?_) fun x hx => g x (List.mem_cons_of_mem r hx)
    rcases put_mem he with ⟨rfl, h0⟩ | he
    · exact ⟨g r List.mem_cons_self, h0⟩
    · exact h e he
theorem res_all {rs : List Ent} (h : resB rs = true) : rs.length ≤ 16 ∧ Rise rs ∧ ∀ r ∈ rs, rightB r.1 = true ∧ 0 ≤ r.2 := by
  unfold resB at h
  rw [Bool.and_eq_true, decide_eq_true_eq, List.all_eq_true] at h
  obtain ⟨h1, h2⟩ := h
  refine ⟨h1, rise_of fun j p e hp he => ?_, fun r hm => ?_⟩
  · have := h2 (j + 1) (List.mem_range.2 (List.getElem?_eq_some_iff.1 he).1)
    unfold resAt at this
    rw [he] at this
    simp only [hp, Bool.and_eq_true] at this
    exact this.2
  · obtain ⟨j, hj⟩ := List.getElem?_of_mem hm
    have := h2 j (List.mem_range.2 (List.getElem?_eq_some_iff.1 hj).1)
    unfold resAt at this
    rw [hj] at this
    simp only [Bool.and_eq_true, decide_eq_true_eq] at this
    exact this.1
theorem right_res {o : Ob} (h : rightO o = true) : resB o.rs = true := by
  unfold rightO at h
  simp only [Bool.and_eq_true] at h
  exact h.2.2.2
theorem more {o : Ob} (hw : wfO o) (h : rightO o = true) : ∃ x, combV false (ofV o.rs).1 [(nObj, 1)] = (x, 0) ∧ rightV x = true ∧ wfV x ∧ x.length ≤ o.rs.length + 1 ∧ ∀ m, getV x m = sumN o.rs m + (if m = nObj then 1 else 0) := by
  obtain ⟨h16, hrise, hall⟩ := res_all (right_res h)
  obtain ⟨q1, q2⟩ := of_wf hw.2.2.2.2
  have ho : (ofV o.rs).1 = o.rs.foldl addR [] := by
    unfold ofV
    rw [if_pos (List.all_eq_true.2 fun r hr => by unfold okR; rw [(hall r hr).1, decide_eq_true (hall r hr).2]; rfl), if_pos h16]
  obtain ⟨g1, g2⟩ := fold_get o.rs [] (by unfold Rise; exact List.Pairwise.nil)
  have hr1 : rightV (ofV o.rs).1 = true := by
    rw [ho]
    exact right_of g1 (fold_mem o.rs [] (fun e he => by cases he) fun r hr => (hall r hr).1)
  have hr2 : rightV [(nObj, 1)] = true := by kernel_rfl
  have hn : ∀ r ∈ o.rs, 0 ≤ r.2 ∧ r.2 ≤ 9223372036854775807 := fun r hr => ⟨(hall r hr).2, (hw.2.2.2.2.2 r hr).2.2⟩
  have hg1 : ∀ m, getV [(nObj, 1)] m = if m = nObj then 1 else 0 := fun m => by
    show (if nObj = m then (1 : Int) else 0) = _
    by_cases e : m = nObj
    · rw [if_pos e, if_pos e.symm]
    · rw [if_neg e, if_neg fun x => e x.symm]
  have hg0 : ∀ m, getV (ofV o.rs).1 m = sumN o.rs m := fun m => by rw [ho, g2]; show 0 + _ = _; omega
  obtain ⟨x, hx⟩ := (both_ex (less := false) q1 hr2).2 fun m => by
    have := sum_rng m hn
    refine inR_of ?_
    show inW (getV (ofV o.rs).1 m + getV [(nObj, 1)] m)
    rw [hg0, hg1]
    unfold inW
    split <;> omega
  have hc : combV false (ofV o.rs).1 [(nObj, 1)] = (x, 0) := by
    unfold combV
    rw [hr1, hr2, if_pos (show (true && true) = true from rfl), hx]
  obtain ⟨h1, -, h3⟩ := both_right hr1 hr2 hx
  have hl := wf_comb (less := false) q1 w_one.1 (by omega) (show [((nObj, 1) : Ent)].length ≤ 20000 by decide)
  rw [hc] at hl
  obtain ⟨-, hfl⟩ := fold_wf o.rs [] 0 (fun r hr => ⟨(hw.2.2.2.2.2 r hr).1, hn r hr⟩) fun e he => by cases he
  refine ⟨x, hc, h1, hl.1, ?_, fun m => ?_⟩
  · have := hl.2
    rw [ho] at this
    simp only [List.length_cons, List.length_nil] at this hfl ⊢
    omega
  · rw [h3]
    show getV (ofV o.rs).1 m + getV [(nObj, 1)] m = _
    rw [hg0, hg1]
end Ojt
end Go.Proofs.YtkjjlppfomidbaaGreat
