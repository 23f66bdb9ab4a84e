/- Contracts of the document's answer for layer 4: Of, Within, Fits, Resources; conditions: at most 1,000 entries, names of at most 100,000 bytes, numbers of 128, of resources of 64 bits. -/
import Derived.Test.YthabchmfhfhcaaaVboth
namespace Go.Proofs.Ythabchmfhfhcaaa
namespace Vec
open Go Go.RowKit Sx Wid Lab
attribute [local irreducible] Go.Calls

/-- A resource's cells. -/
def cellsR (r : Ent) : List Value := [S r.1, I r.2]
theorem cellsR_len (r : Ent) : (cellsR r).length = 2 := rfl
abbrev rcells (l : List Ent) : List Value := l.flatMap cellsR
/-- Resources that came in. -/
def ResAt (w : World) (v : Value) (rs : List Ent) : Prop := OldRow w 2 v rs.length (rcells rs)
theorem ResAt.below {w w' : World} {v : Value} {rs : List Ent} (h : ResAt w v rs) (hb : Below w.heap.size w w') : ResAt w' v rs := OldRow.below h hb
def wfR (rs : List Ent) : Prop := rs.length ≤ 100000 ∧ ∀ r ∈ rs, r.1.length ≤ 100000 ∧ -9223372036854775808 ≤ r.2 ∧ r.2 ≤ 9223372036854775807
theorem wfR.at {rs : List Ent} (h : wfR rs) {i : Nat} {r : Ent} (hi : rs[i]? = some r) : r.1.length ≤ 100000 ∧ -9223372036854775808 ≤ r.2 ∧ r.2 ≤ 9223372036854775807 := h.2 r (List.mem_of_getElem? hi)
theorem res_cells {w : World} {g b : Nat} {r : Ent} (hc : ∀ (k : Nat) u, (cellsR r)[k]? = some u → w.cell? ⟨g, b + k, none⟩ = some u) :
    w.cell? ⟨g, b + 0, none⟩ = some (S r.1) ∧ w.cell? ⟨g, b + 1, none⟩ = some (I r.2) ∧ ∀ (j : Nat) u, [S r.1, I r.2][j]? = some u → w.cell? ⟨g, b + j, none⟩ = some u := ⟨hc 0 _ rfl, hc 1 _ rfl, hc⟩
def okR (r : Ent) : Bool := rightB r.1 && decide (0 ≤ r.2)
/-- Resources put together. -/
def addR (v : List Ent) (r : Ent) : List Ent := putV v r.1 (getV v r.1 + r.2)
def ofV (rs : List Ent) : List Ent × Int :=
  if rs.all okR = true then (if rs.length ≤ 16 then (rs.foldl addR [], 0) else ([], 3)) else ([], 1)
theorem all_no {rs : List Ent} {i : Nat} {r : Ent} (hi : rs[i]? = some r) (h : okR r = false) : rs.all okR = false := by
  rw [List.all_eq_false]
  exact ⟨r, List.mem_of_getElem? hi, by rw [h]; decide⟩
theorem all_yes {rs : List Ent} (h : ∀ (j : Nat) (r : Ent), rs[j]? = some r → okR r = true) : rs.all okR = true := by
  rw [List.all_eq_true]
  intro r hr
  obtain ⟨j, hj⟩ := List.getElem?_of_mem hr
  exact h j r hj
theorem rofV (n : Int) (h0 : -9223372036854775808 ≤ n) (h1 : n ≤ 9223372036854775807) (w : World) : Calls Try.prog 18 #[I n] w fun e w' => e = .returned (WV n) ∧ Below w.heap.size w w' := by
  have hin : inW n := by unfold inW; omega
  have h := rof_ok n h0 h1 w
  have e1 : sHi n = (if n < 0 then -1 else 0) := by unfold sHi; rw [sN_in hin]; split <;> omega
  have e2 : sLo n = n % 18446744073709551616 := by unfold sLo; rw [sN_in hin]
  show Calls _ _ _ _ fun e w' => e = .returned (W2 (sHi n) (sLo n)) ∧ _
  rw [e1, e2]
  exact h
/-- What is put together is not below nought, and not too great. -/
theorem add_rng {v : List Ent} {r : Ent} {B : Int} (h : ∀ e ∈ v, 0 ≤ e.2 ∧ e.2 ≤ B) (hr : 0 ≤ r.2 ∧ r.2 ≤ 9223372036854775807) (hB : 0 ≤ B) : (0 ≤ getV v r.1 ∧ getV v r.1 ≤ B) ∧ ∀ e ∈ addR v r, 0 ≤ e.2 ∧ e.2 ≤ B + 9223372036854775807 := by
  have hg : 0 ≤ getV v r.1 ∧ getV v r.1 ≤ B := by
    by_cases h0 : getV v r.1 = 0
    · rw [h0]; omega
    · obtain ⟨e, he, -, h2⟩ := get_some h0
      rw [← h2]; exact h e he
  refine ⟨hg, fun e he => ?_⟩
  rcases put_mem he with ⟨rfl, -⟩ | he
  · exact ⟨by show 0 ≤ getV v r.1 + r.2; omega, by show getV v r.1 + r.2 ≤ _; omega⟩
  · have := h e he
    omega

set_option maxHeartbeats 8000000 in
theorem vof_ok (v : Value) (rs : List Ent) (hwf : wfR rs) (w : World) (hv : ResAt w v rs) :
    Calls Try.prog 25 #[v] w fun e w' => ∃ r, e = .returned (.tuple #[r, I (ofV rs).2]) ∧ NewRow 51 3 w w' r (ofV rs).1.length (vcells (ofV rs).1) := by
  have hln := hwf.1
  obtain ⟨a, c, rfl, hat⟩ := OldRow.cells cellsR_len hv
  refine calls2 (args := [.slice a rs.length c]) Try.func25 rfl rfl rfl rfl ?_
  repeat' (first | refine aw_seq ?_ | refine zz ?_ | refine zon fun _ => ?_ | refine zoa fun vr lr hr => ?_ | refine zoS (fun _ => ?_) (fun _ => ?_) | refine zqS (fun _ => ?_) (fun _ => ?_) | refine zwS (fun _ => ?_) (fun _ => ?_))
  refine aw_for (t0 := [(0, .slice a rs.length c), (4, .slice none 0 0), (5, I (0 : Nat))]) (fun q t H => ∃ (i : Nat), q = rs.length - i ∧ i ≤ rs.length ∧ (∀ j r, j < i → rs[j]? = some r → okR r = true) ∧ t = [(0, .slice a rs.length c), (4, .slice none 0 0), (5, I i)] ∧ H = []) ⟨0, rfl, by omega, fun j r h => by omega, rfl, rfl⟩ (by repeat (first | exact sub_nil | refine sub_cons rfl ?_)) ?_
  rintro q t H ⟨i, rfl, hi, hall, rfl, rfl⟩
  by_cases hlt : i < rs.length
  · obtain ⟨r, he⟩ := getI hlt
    obtain ⟨g, o, rfl, hg, hc⟩ := hat i r (i : Int) he rfl
    obtain ⟨c0, c1, -⟩ := res_cells hc
    have hwe := hwf.at he
    cases hr : rightB r.1
    · have hq : ofV rs = ([], 1) := by unfold ofV; rw [all_no he (by simp [okR, hr])]; rfl
      rw [hq]
      have hrr : ∀ w, Calls Try.prog 31 #[S r.1] w fun e w' => e = .returned (.bool false) ∧ Below w.heap.size w w' := fun w => hr ▸ rright_ok r.1 (by omega) w
      repeat' (first | refine aw_seq ?_ | refine zz ?_ | refine zon fun _ => ?_ | refine zoa fun vr lr hr => ?_ | ((first | apply ao_call | apply aq_call); exact wants_a; (first | exact oc_func rfl | exact oc_clos rfl rfl); (exact rfl); (first | exact fun w hw => hrr w)) | refine zoS (fun _ => ?_) (fun _ => ?_) | refine zqS (fun _ => ?_) (fun _ => ?_) | refine zwS (fun _ => ?_) (fun _ => ?_))
      exact fun w' hw => ⟨_, rfl, hw.below, _, RowB.nil, fun _ _ h => by cases h⟩
    have hrr : ∀ w, Calls Try.prog 31 #[S r.1] w fun e w' => e = .returned (.bool true) ∧ Below w.heap.size w w' := fun w => hr ▸ rright_ok r.1 (by omega) w
    by_cases hn : r.2 < 0
    · have hq : ofV rs = ([], 1) := by unfold ofV; rw [all_no he (by simp [okR, hr]; omega)]; rfl
      rw [hq]
      repeat' (first | refine aw_seq ?_ | refine zz ?_ | refine zon fun _ => ?_ | refine zoa fun vr lr hr => ?_ | ((first | apply ao_call | apply aq_call); exact wants_a; (first | exact oc_func rfl | exact oc_clos rfl rfl); (exact rfl); (first | exact fun w hw => hrr w)) | refine zoS (fun _ => ?_) (fun _ => ?_) | refine zqS (fun _ => ?_) (fun _ => ?_) | refine zwS (fun _ => ?_) (fun _ => ?_))
      exact fun w' hw => ⟨_, rfl, hw.below, _, RowB.nil, fun _ _ h => by cases h⟩
    · repeat' (first | refine aw_seq ?_ | refine zz ?_ | refine zon fun _ => ?_ | refine zoa fun vr lr hr => ?_ | ((first | apply ao_call | apply aq_call); exact wants_a; (first | exact oc_func rfl | exact oc_clos rfl rfl); (exact rfl); (first | exact fun w hw => hrr w)) | refine zoS (fun _ => ?_) (fun _ => ?_) | refine zqS (fun _ => ?_) (fun _ => ?_) | refine zwS (fun _ => ?_) (fun _ => ?_))
      exact lq_normal ⟨i + 1, rfl, by omega, fun j x hj hx => by
        by_cases e1 : j = i
        · subst e1; rw [he] at hx; cases hx; simp [okR, hr]; omega
        · exact hall j x (by omega) hx, rfl, rfl⟩ (by omega) (by repeat (first | exact sub_nil | refine sub_cons rfl ?_))
  obtain rfl : i = rs.length := by omega
  have hall2 : rs.all okR = true := all_yes fun j r hj => hall j r (List.getElem?_eq_some_iff.1 hj).1 hj
  by_cases h16 : rs.length ≤ 16
  · have hq : ofV rs = (rs.foldl addR [], 0) := by unfold ofV; rw [if_pos hall2, if_pos h16]
    rw [hq]
    repeat' (first | refine aw_seq ?_ | refine zz ?_ | refine zon fun _ => ?_ | refine zoa fun vr lr hr => ?_ | refine zoS (fun _ => ?_) (fun _ => ?_) | refine zqS (fun _ => ?_) (fun _ => ?_) | refine zwS (fun _ => ?_) (fun _ => ?_))
    refine aw_for (t0 := [(0, .slice a rs.length c), (4, .slice none 0 0), (7, I (0 : Nat))]) (fun q t H => ∃ (i : Nat) (x : Value) (l : Hp) (outs : List Ent), q = rs.length - i ∧ i ≤ rs.length ∧ RowB 51 3 x l outs.length (vcells outs) ∧ outs.length ≤ i ∧ (∀ e ∈ outs, e.1.length ≤ 100000 ∧ inW e.2) ∧ (∀ e ∈ outs, 0 ≤ e.2 ∧ e.2 ≤ (i : Int) * 9223372036854775807) ∧ (rs.drop i).foldl addR outs = rs.foldl addR [] ∧ t = [(0, .slice a rs.length c), (4, x), (7, I i)] ∧ H = l ++ []) ⟨0, _, _, [], rfl, by omega, RowB.nil, by simp, fun _ h => by simp at h, fun _ h => by simp at h, rfl, rfl, rfl⟩ (by repeat (first | exact sub_nil | refine sub_cons rfl ?_)) ?_
    rintro q t H ⟨i, x, l, outs, rfl, hi, hr, hol, hwo, hrng, hfold, rfl, rfl⟩
    have hwfo : wfV outs := ⟨by omega, hwo⟩
    by_cases hlt : i < rs.length
    · obtain ⟨r, he⟩ := getI hlt
      obtain ⟨g, o, rfl, hg, hc⟩ := hat i r (i : Int) he rfl
      obtain ⟨c0, c1, -⟩ := res_cells hc
      have hwe := hwf.at he
      have hok := hall i r hlt he
      simp only [okR, Bool.and_eq_true, decide_eq_true_eq] at hok
      have hd : rs.drop i = r :: rs.drop (i + 1) := by
        have := List.drop_eq_getElem_cons hlt
        rw [this, (List.getElem?_eq_some_iff.1 he).2]
      rw [hd, List.foldl_cons] at hfold
      obtain ⟨⟨g0, g1⟩, hrng2⟩ := add_rng (B := (i : Int) * 9223372036854775807) hrng ⟨hok.2, hwe.2.2⟩ (by omega)
      have hin1 : inW (getV outs r.1) := by unfold inW; omega
      have hin2 : inW r.2 := by unfold inW; omega
      have hin3 : inW (getV outs r.1 + r.2) := by unfold inW; omega
      have hpl := (put_len (nm := r.1) (n := getV outs r.1 + r.2) outs (getV outs r.1 + r.2 == 0)).1
      have hpl' : (putV outs r.1 (getV outs r.1 + r.2)).length ≤ outs.length + 1 := hpl
      have hwp := wf_put (n := getV outs r.1 + r.2) hwo hwe.1 hin3
      repeat' (first | (apply ao_nilh; exact hsub_a) | apply ao_nil | apply aq_nil | apply ah_end | ((first | apply ao_val | apply aq_val | (apply ah_take; (exact rfl))); exact wants_a; exact ov_a; (exact rfl)) | ((first | apply ao_skip | apply aq_skip | (apply ah_skip; (exact rfl))); exact nots_a; (exact rfl)) | (refine ao_is ?_; first | (apply ao_new; exact wants_a; exact on_a; (exact rfl); intro _) | (apply ao_store; exact wants_a; exact ow_a; exact upd_a) | (apply ao_valw; exact wants_a; exact ox_a; (exact rfl); exact upd_a) | (apply ao_skip0; exact nots_a) | (apply ao_append; exact wants_a; (exact rfl); assumption; (exact rfl); exact cut_a; exact has_a; (exact rfl); (exact rfl); omega; omega; omega; (exact rfl); intro vr lr hr)) | ((first | apply ao_call | apply aq_call); exact wants_a; (first | exact oc_func rfl | exact oc_clos rfl rfl); (exact rfl); (first | exact fun w hw => vget_ok _ outs r.1 hwfo w (hw.oldr (by assumption) cut_a) | exact fun w hw => rofV r.2 hwe.2.1 hwe.2.2 w | exact fun w hw => raddV _ _ hin1 hin2 w)) | (apply ao_callr; exact wants_a; (exact oc_func rfl); (exact rfl); (first | exact fun w hw => vput_ok _ outs r.1 _ hwfo hwe.1 hin3 w (hw.oldr (by assumption) cut_a)); intro vr lr hr) | (apply ah_one; (exact rfl)) | (apply ah_two; (exact rfl); (exact rfl)) | (apply ah_three; (exact rfl); (exact rfl); (exact rfl)) | (refine aw_is ?_; first | (apply aw_held (id := 13) (pl := (.t 0 (.t 1 (.t 2 (.t 3 (.t 4 (.t 5 (.t 7 (.t 8 (.t 9 (.t 10 (.t 11 (.w 6 (.w 12 (.w 13 (.t 14 (.t 15 (.t 16 (.o 17 (.o 18 (.t 19 .e)))))) 17 (.o 13 (.t 14 (.t 15 (.t 16 (.o 18 (.t 19 .e))))))) 17 (.o 12 (.o 13 (.t 14 (.t 15 (.t 16 (.o 18 (.t 19 .e)))))))) 17 (.o 6 (.o 12 (.o 13 (.t 14 (.t 15 (.t 16 (.o 18 (.t 19 .e))))))))))))))))))))); (kernel_rfl); (kernel_rfl); (kernel_rfl); (solve | (exact List.Sublist.refl _))) | (apply aw_held (id := 14) (pl := (.t 0 (.t 1 (.t 2 (.t 3 (.t 4 (.t 5 (.t 6 (.o 7 (.t 8 .e)))))))))); (kernel_rfl); (kernel_rfl); (kernel_rfl); (solve | (exact List.Sublist.refl _))) | refine aw_seq ?_ | refine aw_block ?_ | refine aw_region ?_ | refine aw_skip ?_ | refine aw_exit ?_ | refine aw_ret ?_ | refine aw_label ?_ | refine aw_scope ?_ | refine aw_cond_t rfl (by with_reducible rfl) ?_ | refine aw_cond_f rfl (by with_reducible rfl) ?_ | refine aw_draw (by kernel_rfl) (by kernel_rfl) ?_) | (first | (refine ah_is ?_; (fail_if_success first | refine ah_glit (b := true) rfl rfl rfl (by with_reducible rfl) ?_ | refine ah_glit (b := false) rfl rfl rfl (by with_reducible rfl) ?_); apply ah_gt; (exact rfl); (exact rfl); (exact rfl); exact t_a) | ((refine ao_is ?_; (fail_if_success first | refine ao_glit (b := true) rfl rfl (by with_reducible rfl) ?_ | refine ao_glit (b := false) rfl rfl (by with_reducible rfl) ?_)); apply ao_gt; (exact rfl); (exact rfl); exact t_a) | ((refine aq_is ?_; (fail_if_success first | refine aq_glit (b := true) rfl rfl (by with_reducible rfl) ?_ | refine aq_glit (b := false) rfl rfl (by with_reducible rfl) ?_)); apply aq_gt; (exact rfl); (exact rfl); exact t_a) | (apply aw_ct; (exact rfl); exact t_a)) | (first | (refine ah_is ?_; (fail_if_success first | refine ah_glit (b := true) rfl rfl rfl (by with_reducible rfl) ?_ | refine ah_glit (b := false) rfl rfl rfl (by with_reducible rfl) ?_); apply ah_gf; (exact rfl); (exact rfl); (exact rfl); exact f_a) | ((refine ao_is ?_; (fail_if_success first | refine ao_glit (b := true) rfl rfl (by with_reducible rfl) ?_ | refine ao_glit (b := false) rfl rfl (by with_reducible rfl) ?_)); apply ao_gf; (exact rfl); (exact rfl); exact f_a) | ((refine aq_is ?_; (fail_if_success first | refine aq_glit (b := true) rfl rfl (by with_reducible rfl) ?_ | refine aq_glit (b := false) rfl rfl (by with_reducible rfl) ?_)); apply aq_gf; (exact rfl); (exact rfl); exact f_a) | (apply aw_cf; (exact rfl); exact f_a)) | refine at_normal ?_ | refine at_exit ?_ | refine at_ret ?_ | refine ib_normal ?_ | refine ib_exit ?_ | refine ib_other ?_ | refine ib_ret ?_ | refine lq_exit ?_ | refine lq_ret ?_ | refine ci_ret ?_ | refine ci_exit ?_ | refine r1_ret rfl ?_ | refine r1_normal rfl ?_ | refine r2_ret rfl rfl ?_ | refine r2_normal rfl rfl ?_ | refine r3_ret rfl rfl rfl ?_ | refine r3_normal rfl rfl rfl ?_ | refine ng_normal ?_ | refine ng_exit ?_ | refine ng_ret ?_ | (apply rt_ret; (exact rfl); (exact rfl); (exact rfl); exact has_a; exact has_a; (exact rfl); (exact rfl)) | (apply rc1_ret; (exact rfl); exact has_a; (exact rfl)) | (apply rc2_ret; (exact rfl); exact has_a; (exact rfl); (exact rfl)) | (refine ao_is ?_; (fail_if_success first | refine ao_glit (b := true) rfl rfl (by with_reducible rfl) ?_ | refine ao_glit (b := false) rfl rfl (by with_reducible rfl) ?_); refine ao_gbool rfl rfl (fun _ => ?_) (fun _ => ?_)) | (refine aq_is ?_; (fail_if_success first | refine aq_glit (b := true) rfl rfl (by with_reducible rfl) ?_ | refine aq_glit (b := false) rfl rfl (by with_reducible rfl) ?_); refine aq_gbool rfl rfl (fun _ => ?_) (fun _ => ?_)) | (refine aw_is ?_; refine aw_cond rfl (fun _ => ?_) (fun _ => ?_)))
      all_goals exact lq_normal' ⟨i + 1, _, _, putV outs r.1 (getV outs r.1 + r.2), rfl, by omega, (by assumption), by omega, hwp, fun e he => ⟨(hrng2 e he).1, by have := (hrng2 e he).2; omega⟩, hfold, rfl, rfl⟩ (by omega) (by repeat (first | exact sub_nil | refine sub_cons rfl ?_)) hsub_a
    · obtain rfl : i = rs.length := by omega
      have hnil : rs.drop rs.length = [] := List.drop_eq_nil_of_le (by omega)
      rw [hnil, List.foldl_nil] at hfold
      rw [← hfold]
      repeat' (first | refine aw_seq ?_ | refine zz ?_ | refine zon fun _ => ?_ | refine zoa fun vr lr hr => ?_ | refine zoS (fun _ => ?_) (fun _ => ?_) | refine zqS (fun _ => ?_) (fun _ => ?_) | refine zwS (fun _ => ?_) (fun _ => ?_))
      exact fun w' hw => ⟨_, rfl, hw.below, _, hr, fun b o hm => hw.at_ b o (List.mem_append_left _ hm)⟩
  · have hq : ofV rs = ([], 3) := by unfold ofV; rw [if_pos hall2, if_neg h16]
    rw [hq]
    repeat' (first | refine aw_seq ?_ | refine zz ?_ | refine zon fun _ => ?_ | refine zoa fun vr lr hr => ?_ | refine zoS (fun _ => ?_) (fun _ => ?_) | refine zqS (fun _ => ?_) (fun _ => ?_) | refine zwS (fun _ => ?_) (fun _ => ?_))
    exact fun w' hw => ⟨_, rfl, hw.below, _, RowB.nil, fun _ _ h => by cases h⟩

/-- The first name of which it has more. -/
def overL (es : List Ent) : List Ent → Option Nm
  | [] => none
  | h :: hs => if getV es h.1 > h.2 then some h.1 else overL es hs
def withinV (es fs : List Ent) : Value :=
  if (rightV es && rightV fs) = true then (match overL es fs with | some n => .tuple #[.bool false, S n] | none => .tuple #[.bool true, S []]) else .tuple #[.bool false, S []]
theorem cmp_gt (x y : Int) : decide (cmpI x y > 0) = decide (x > y) := by
  unfold cmpI
  rw [decide_eq_decide]
  split
  · omega
  · split <;> omega

def inI (x : Int) : Bool := decide (-9223372036854775808 ≤ x) && decide (x ≤ 9223372036854775807)
theorem fitsV_t {x : Int} (h : inI x = true) : fitsV x = .tuple #[I x, .bool true] := by
  simp only [inI, Bool.and_eq_true, decide_eq_true_eq] at h
  unfold fitsV; rw [if_pos h]
theorem fitsV_f {x : Int} (h : inI x = false) : fitsV x = .tuple #[I 0, .bool false] := by
  unfold fitsV; rw [if_neg]
  intro h2
  simp [inI, h2.1, h2.2] at h
def vfitsB (es : List Ent) : Bool := es.all (fun e => inI e.2) && rightV es

theorem res_ne {r s : Ent} (h : r ≠ s) : (!(eqAll [S r.1, I r.2] [S s.1, I s.2])) = true := by
  by_cases hq : eqAll [S r.1, I r.2] [S s.1, I s.2] = true
  · exfalso
    apply h
    simp only [eqAll, eqB, Bool.and_eq_true, beq_iff_eq] at hq
    have h1 : r.1 = s.1 := by simpa using hq.1
    exact Prod.ext h1 (by simpa using hq.2)
  · simpa using hq

set_option maxHeartbeats 8000000 in
theorem vresources_ok (v u : Value) (es fs : List Ent) (hw1 : wfR es) (hw2 : wfR fs) (w : World) (hv : ResAt w v es) (hu : ResAt w u fs) : Calls Try.prog 34 #[v, u] w fun e w' => e = .returned (.bool (es == fs)) ∧ Below w.heap.size w w' := by
  have hln := hw1.1
  have hln2 := hw2.1
  obtain ⟨a, c, rfl, hat⟩ := OldRow.cells cellsR_len hv
  obtain ⟨a2, c2, rfl, hat2⟩ := OldRow.cells cellsR_len hu
  refine calls1 (args := [.slice a es.length c, .slice a2 fs.length c2]) Try.func34 rfl rfl rfl rfl ?_
  by_cases hlen : es.length = fs.length
  · rw [← hlen]
    have hle : ((es.length : Int) != (es.length : Int)) = false := bne_self_eq_false _
    repeat' (first | refine aw_seq ?_ | refine zz ?_ | refine zon fun _ => ?_ | refine zoa fun vr lr hr => ?_ | refine zoS (fun _ => ?_) (fun _ => ?_) | refine zqS (fun _ => ?_) (fun _ => ?_) | refine zwS (fun _ => ?_) (fun _ => ?_))
    refine aw_for (t0 := [(0, .slice a es.length c), (1, .slice a2 es.length c2), (5, I (0 : Nat))]) (fun q t H => ∃ (i : Nat), q = es.length - i ∧ i ≤ es.length ∧ es.take i = fs.take i ∧ t = [(0, .slice a es.length c), (1, .slice a2 es.length c2), (5, I i)] ∧ H = []) ⟨0, rfl, by omega, rfl, rfl, rfl⟩ (by repeat (first | exact sub_nil | refine sub_cons rfl ?_)) ?_
    rintro q t H ⟨i, rfl, hi, htake, rfl, rfl⟩
    by_cases hlt : i < es.length
    · obtain ⟨e, he⟩ := getI hlt
      obtain ⟨f, hf⟩ := getI (show i < fs.length by omega)
      obtain ⟨g, o, rfl, hg, hc⟩ := hat i e (i : Int) he rfl
      obtain ⟨g2, o2, rfl, hg2, hc2⟩ := hat2 i f (i : Int) hf rfl
      obtain ⟨-, -, cA⟩ := res_cells hc
      obtain ⟨-, -, cB⟩ := res_cells hc2
      by_cases hef : e = f
      · subst hef
        repeat' (first | refine aw_seq ?_ | ((first | apply ao_val | apply aq_val); exact wants_a; (first | exact ov_load_oa rfl hg cA rfl | exact ov_load_oa rfl hg2 cB rfl | exact ov_a); (exact rfl)) | refine zy ?_ | refine zon fun _ => ?_ | refine zoa fun vr lr hr => ?_ | refine zoS (fun _ => ?_) (fun _ => ?_) | refine zqS (fun _ => ?_) (fun _ => ?_) | refine zwS (fun _ => ?_) (fun _ => ?_))
        exact lq_normal ⟨i + 1, rfl, by omega, by rw [List.take_add_one, List.take_add_one, htake, he, hf], rfl, rfl⟩ (by omega) (by repeat (first | exact sub_nil | refine sub_cons rfl ?_))
      · have hne : es ≠ fs := fun h => by rw [h, hf] at he; cases he; exact hef rfl
        rw [show (es == fs) = false from beq_eq_false_iff_ne.2 hne]
        have hb := res_ne hef
        repeat' (first | refine aw_seq ?_ | ((first | apply ao_val | apply aq_val); exact wants_a; (first | exact ov_load_oa rfl hg cA rfl | exact ov_load_oa rfl hg2 cB rfl | exact ov_a); (exact rfl)) | refine zy ?_ | refine zon fun _ => ?_ | refine zoa fun vr lr hr => ?_ | refine zoS (fun _ => ?_) (fun _ => ?_) | refine zqS (fun _ => ?_) (fun _ => ?_) | refine zwS (fun _ => ?_) (fun _ => ?_))
        exact fun w' hw => ⟨rfl, hw.below⟩
    · obtain rfl : i = es.length := by omega
      have : es = fs := by rw [List.take_length, hlen, List.take_length] at htake; exact htake
      rw [show (es == fs) = true from beq_iff_eq.2 this]
      repeat' (first | refine aw_seq ?_ | refine zz ?_ | refine zon fun _ => ?_ | refine zoa fun vr lr hr => ?_ | refine zoS (fun _ => ?_) (fun _ => ?_) | refine zqS (fun _ => ?_) (fun _ => ?_) | refine zwS (fun _ => ?_) (fun _ => ?_))
      exact fun w' hw => ⟨rfl, hw.below⟩
  · have hle : ((es.length : Int) != (fs.length : Int)) = true := bne_iff_ne.2 (by omega)
    rw [show (es == fs) = false from beq_eq_false_iff_ne.2 fun h => hlen (by rw [h])]
    repeat' (first | refine aw_seq ?_ | refine zz ?_ | refine zon fun _ => ?_ | refine zoa fun vr lr hr => ?_ | refine zoS (fun _ => ?_) (fun _ => ?_) | refine zqS (fun _ => ?_) (fun _ => ?_) | refine zwS (fun _ => ?_) (fun _ => ?_))
    exact fun w' hw => ⟨rfl, hw.below⟩
end Vec
end Go.Proofs.Ythabchmfhfhcaaa
