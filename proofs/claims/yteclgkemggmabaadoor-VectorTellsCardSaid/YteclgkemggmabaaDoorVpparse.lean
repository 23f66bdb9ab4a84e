/- Contract of the landed Parse of layer 4; conditions: the quantities' table as it was laid, texts of at most 100,000 bytes. -/
import Derived.Test.YteclgkemggmabaaDoorVrparse
import Derived.Test.YteclgkemggmabaaDoorQsc
namespace Go.Proofs.YteclgkemggmabaaDoor
namespace Vec
open Go Go.RowKit Sx Wid Lab
attribute [local irreducible] Go.Calls

theorem indexByte_nx (c : UInt8) : ∀ (l : List UInt8), Lib.indexByte l c = if nx c l < l.length then (nx c l : Int) else -1
  | [] => rfl
  | d :: l => by
    have ih := indexByte_nx c l
    by_cases hc : d = c
    · subst hc; simp [Lib.indexByte, nx]
    · have hn : nx c (d :: l) = nx c l + 1 := by
        unfold nx
        rw [List.takeWhile_cons_of_pos (by simpa using hc)]
        rfl
      have hc' : (d == c) = false := by simpa using hc
      unfold Lib.indexByte
      rw [hn, hc', ih]
      simp only [Bool.false_eq_true, if_false, List.length_cons]
      by_cases hl : nx c l < l.length
      · have h2 : nx c l + 1 < l.length + 1 := by omega
        have : ((nx c l : Int) == -1) = false := by rw [beq_eq_false_iff_ne]; omega
        simp only [hl, h2, if_true, this, Bool.false_eq_true, if_false]
        omega
      · have h2 : ¬ nx c l + 1 < l.length + 1 := by omega
        simp only [hl, h2, if_false]
        rfl
theorem cutV_nx (l : List UInt8) (c : UInt8) : cutV l c = .tuple #[S (l.take (nx c l)), S (l.drop (nx c l + 1)), .bool (decide (nx c l < l.length))] := by
  unfold cutV
  rw [indexByte_nx]
  by_cases h : nx c l < l.length
  · rw [if_pos h, if_pos (by omega), decide_eq_true h, Int.toNat_natCast]
  · have := nx_le c l
    rw [if_neg h, if_neg (by omega), decide_eq_false h, List.take_of_length_le (by omega), List.drop_eq_nil_of_le (by omega)]
theorem cut_ok (l : List UInt8) (c : UInt8) (hl : l.length ≤ 100000) (w : World) : Calls Tryd.prog 51 #[S l, S [c]] w fun e w' => e = .returned (.tuple #[S (l.take (nx c l)), S (l.drop (nx c l + 1)), .bool (decide (nx c l < l.length))]) ∧ Below w.heap.size w w' := cutV_nx l c ▸ strings_Cut_ok l c (by omega) w
theorem quanV_ok (l : List UInt8) (hl : l.length ≤ 100000) (w : World) (hG : Qty.GlS w) : Calls Tryd.prog 52 #[S l] w fun e w' => e = .returned (.tuple #[I (parQ l).1, I (parQ l).2]) ∧ Below w.heap.size w w' := parQ_eq l ▸ Qty.parse_ok l hl w hG
/-- The last name, if there is one. -/
def lastN (out : List Ent) : Nm := match out.getLast? with | none => [] | some r => r.1
theorem up_last {out : List Ent} {m : Nm} (h : rightB m = true) : upB out m = lt (lastN out) m := by
  unfold upB lastN
  cases hg : out.getLast? with
  | some r => rfl
  | none =>
    cases m with
    | nil => simp [rightB] at h
    | cons c m => rfl
theorem leq_lt (a b : Nm) : (Op.bytesLess b a || b == a) = !(lt a b) := by
  cases h : lt a b
  · cases h2 : Op.bytesLess b a
    · rw [lt_total (a := a) (b := b) h h2]; simp
    · rfl
  · have h2 := lt_asymm h
    have h3 := lt_ne h
    rw [show Op.bytesLess b a = false from h2, Bool.false_or]
    exact beq_eq_false_iff_ne.2 h3.symm
theorem lastN_snoc (out : List Ent) (r : Ent) : lastN (out ++ [r]) = r.1 := by simp [lastN]

set_option maxHeartbeats 16000000 in
theorem vparse_ok (l0 : List UInt8) (hl0 : l0.length ≤ 100000) (w : World) (hG : Qty.GlS w) :
    Calls Tryd.prog 27 #[S l0] w fun e w' => ∃ r, e = .returned (.tuple #[r, I (parseV l0).2]) ∧ NewRow 41 2 w w' r (parseV l0).1.length (rcells (parseV l0).1) := by
  refine calls2 (args := [S l0]) Tryd.func27 rfl rfl rfl rfl ?_
  by_cases hnil : l0 = []
  · subst hnil
    have hq : parseV [] = ([], 0) := rfl
    rw [hq]
    have he : (([] : List UInt8) == []) = true := rfl
    repeat' (first | refine ao_nil ?_ | refine aq_nil ?_ | refine zov ?_ | refine zqv ?_ | refine zok ?_ | refine zqk ?_ | refine zon fun _ => ?_ | refine zow ?_ | refine zox ?_ | refine zoz ?_ | refine zoa fun vr lr hr => ?_ | (refine aw_is ?_; first | refine aw_seq ?_ | refine aw_block ?_ | refine aw_region ?_ | refine aw_skip ?_ | refine aw_exit ?_ | refine aw_ret ?_ | refine aw_label ?_ | refine aw_scope ?_ | refine zwt ?_ | refine zwf ?_ | refine zwd ?_) | refine zoT ?_ | refine zqT ?_ | refine zwT ?_ | refine zoF ?_ | refine zqF ?_ | refine zwF ?_ | refine zp ?_ | refine ib_exit ?_ | refine ib_other ?_ | refine zr1 ?_ | refine zr2 ?_ | refine zr3 ?_ | refine zrt ?_ | refine zrc ?_ | refine zrd ?_ | refine zoS (fun _ => ?_) (fun _ => ?_) | refine zqS (fun _ => ?_) (fun _ => ?_) | refine zwS (fun _ => ?_) (fun _ => ?_))
    exact fun w' hw => ⟨_, rfl, hw.below, _, RowB.nil, fun _ _ h => by cases h⟩
  have hq : parseV l0 = parseL (l0.length + 1) [] l0 := by unfold parseV; rw [if_neg hnil]
  rw [hq]
  have he : (l0 == []) = false := beq_eq_false_iff_ne.2 hnil
  repeat' (first | refine ao_nil ?_ | refine aq_nil ?_ | refine zov ?_ | refine zqv ?_ | refine zok ?_ | refine zqk ?_ | refine zon fun _ => ?_ | refine zow ?_ | refine zox ?_ | refine zoz ?_ | refine zoa fun vr lr hr => ?_ | (refine aw_is ?_; first | refine aw_seq ?_ | refine aw_block ?_ | refine aw_region ?_ | refine aw_skip ?_ | refine aw_exit ?_ | refine aw_ret ?_ | refine aw_label ?_ | refine aw_scope ?_ | refine zwt ?_ | refine zwf ?_ | refine zwd ?_) | refine zoT ?_ | refine zqT ?_ | refine zwT ?_ | refine zoF ?_ | refine zqF ?_ | refine zwF ?_ | refine zp ?_ | refine ib_exit ?_ | refine ib_other ?_ | refine zr1 ?_ | refine zr2 ?_ | refine zr3 ?_ | refine zrt ?_ | refine zrc ?_ | refine zrd ?_ | refine zoS (fun _ => ?_) (fun _ => ?_) | refine zqS (fun _ => ?_) (fun _ => ?_) | refine zwS (fun _ => ?_) (fun _ => ?_))
  refine aw_for (t0 := [(0, S l0), (4, .slice none 0 0), (5, S []), (6, .bool true)]) (fun q t H => ∃ (n : Nat) (more : Bool) (l : List UInt8) (x : Value) (lh : Hp) (outs : List Ent), q = (if more then l.length + 1 else 0) ∧ l.length ≤ 100000 ∧ l.length < n ∧ RowB 41 2 x lh outs.length (rcells outs) ∧ outs.length ≤ 16 ∧ (if more then parseL n outs l else (outs, 0)) = parseL (l0.length + 1) [] l0 ∧ t = [(0, S l), (4, x), (5, S (lastN outs)), (6, .bool more)] ∧ H = lh ++ []) ⟨l0.length + 1, true, l0, _, _, [], rfl, hl0, by omega, RowB.nil, by simp, rfl, rfl, rfl⟩ (by repeat (first | exact sub_nil | refine sub_cons rfl ?_)) ?_
  rintro q t H ⟨n, more, l, x, lh, outs, rfl, hl, hn, hr, ho16, hpar, rfl, rfl⟩
  cases more
  · rw [if_neg (by decide)] at hpar
    rw [← hpar]
    repeat' (first | refine ao_nil ?_ | refine aq_nil ?_ | refine zov ?_ | refine zqv ?_ | refine zok ?_ | refine zqk ?_ | refine zon fun _ => ?_ | refine zow ?_ | refine zox ?_ | refine zoz ?_ | refine zoa fun vr lr hr => ?_ | (refine aw_is ?_; first | refine aw_seq ?_ | refine aw_block ?_ | refine aw_region ?_ | refine aw_skip ?_ | refine aw_exit ?_ | refine aw_ret ?_ | refine aw_label ?_ | refine aw_scope ?_ | refine zwt ?_ | refine zwf ?_ | refine zwd ?_) | refine zoT ?_ | refine zqT ?_ | refine zwT ?_ | refine zoF ?_ | refine zqF ?_ | refine zwF ?_ | refine zp ?_ | refine ib_exit ?_ | refine ib_other ?_ | refine zr1 ?_ | refine zr2 ?_ | refine zr3 ?_ | refine zrt ?_ | refine zrc ?_ | refine zrd ?_ | refine zoS (fun _ => ?_) (fun _ => ?_) | refine zqS (fun _ => ?_) (fun _ => ?_) | refine zwS (fun _ => ?_) (fun _ => ?_))
    all_goals exact fun w' hw => ⟨_, rfl, hw.below, _, hr, fun b o hm => hw.at_ b o (List.mem_append_left _ hm)⟩
  rw [if_pos rfl] at hpar
  obtain ⟨n, rfl⟩ : ∃ m, n = m + 1 := ⟨n - 1, by omega⟩
  obtain ⟨p, hp⟩ : ∃ p, p = nx 44 l := ⟨_, rfl⟩
  obtain ⟨m, hm⟩ : ∃ m, m = nx 61 (partP l) := ⟨_, rfl⟩
  have hple : p ≤ l.length := by have := nx_le 44 l; rw [← hp] at this; exact this
  have hpl : (partP l).length = p := by unfold partP; rw [← hp, List.length_take, Nat.min_eq_left hple]
  have hmle : m ≤ p := by have := nx_le 61 (partP l); rw [← hm, hpl] at this; exact this
  have hnl : (nmP l).length ≤ 100000 := by unfold nmP; rw [List.length_take]; omega
  have htl : (txP l).length ≤ 100000 := by unfold txP; rw [List.length_drop]; omega
  have f1 := fun w => cut_ok l 44 hl w
  have f2 := fun w => cut_ok (partP l) 61 (by omega) w
  rw [hpl] at f2
  rw [← hm] at f2
  rw [← hp] at f1
  have e1 : l.take p = partP l := by unfold partP; rw [← hp]
  have e2 : (partP l).take m = nmP l := by unfold nmP; rw [← hm]
  have e3 : (partP l).drop (m + 1) = txP l := by unfold txP; rw [← hm]
  rw [e1] at f1
  rw [e2, e3] at f2
  have hstep : parseL (n + 1) outs l = if badP outs l = true then ([], 2) else if (parQ (txP l)).2 ≠ 0 then ([], (parQ (txP l)).2)
    else if nx 44 l = l.length then (outs ++ [(nmP l, (parQ (txP l)).1)], 0) else parseL n (outs ++ [(nmP l, (parQ (txP l)).1)]) (l.drop (nx 44 l + 1)) := rfl
  rw [hstep, ← hp] at hpar
  obtain ⟨hq0, hq1, hq2⟩ := parQ_rng (txP l)
  have hbad : badP outs l = (m == p || !rightB (nmP l) || outs.length == 16 || !upB outs (nmP l)) := by unfold badP; rw [← hp, ← hm]
  have fq := quanV_ok (txP l) htl
  have hup := up_last (out := outs) (m := nmP l)
  generalize nmP l = nm at hnl hpar hbad hup f2
  generalize parQ (txP l) = pq at hpar hq0 hq1 hq2 fq
  generalize txP l = tx at htl fq f2
  obtain ⟨pn, pe⟩ := pq
  simp only at hpar hq0 hq1 hq2 fq
  obtain ⟨ax, cx, rfl⟩ := hr.len
  have hrr := fun w => Lab.right_ok nm w
  have hcut : (l.drop (p + 1)).length = l.length - (p + 1) := by rw [List.length_drop]
  by_cases hmp : m = p
  · rw [hbad, show (m == p) = true from beq_iff_eq.2 hmp, Bool.true_or, Bool.true_or, Bool.true_or, if_pos rfl] at hpar
    rw [← hpar]
    rw [decide_eq_false (show ¬ m < p by omega)] at f2
    repeat' (first | refine ao_nil ?_ | refine aq_nil ?_ | refine zov ?_ | refine zqv ?_ | refine zok ?_ | refine zqk ?_ | refine zon fun _ => ?_ | refine zow ?_ | refine zox ?_ | refine zoz ?_ | refine zoa fun vr lr hr => ?_ | ((first | apply ao_call | apply aq_call); exact wants_a; (first | exact oc_func rfl | exact oc_clos rfl rfl); (exact rfl); (first | exact fun w hw => f1 w | exact fun w hw => f2 w)) | (refine aw_is ?_; first | refine aw_seq ?_ | refine aw_block ?_ | refine aw_region ?_ | refine aw_skip ?_ | refine aw_exit ?_ | refine aw_ret ?_ | refine aw_label ?_ | refine aw_scope ?_ | refine zwt ?_ | refine zwf ?_ | refine zwd ?_) | refine zoT ?_ | refine zqT ?_ | refine zwT ?_ | refine zoF ?_ | refine zqF ?_ | refine zwF ?_ | refine zp ?_ | refine ib_exit ?_ | refine ib_other ?_ | refine zr1 ?_ | refine zr2 ?_ | refine zr3 ?_ | refine zrt ?_ | refine zrc ?_ | refine zrd ?_ | refine zoS (fun _ => ?_) (fun _ => ?_) | refine zqS (fun _ => ?_) (fun _ => ?_) | refine zwS (fun _ => ?_) (fun _ => ?_))
    all_goals exact fun w' hw => ⟨_, rfl, hw.below, _, RowB.nil, fun _ _ h => by cases h⟩
  rw [show (m == p) = false from beq_eq_false_iff_ne.2 hmp, Bool.false_or] at hbad
  rw [decide_eq_true (show m < p by omega)] at f2
  cases hrb : rightB nm
  · rw [hbad, hrb, Bool.not_false, Bool.true_or, Bool.true_or, if_pos rfl] at hpar
    rw [← hpar]
    rw [hrb] at hrr
    repeat' (first | refine ao_nil ?_ | refine aq_nil ?_ | refine zov ?_ | refine zqv ?_ | refine zok ?_ | refine zqk ?_ | refine zon fun _ => ?_ | refine zow ?_ | refine zox ?_ | refine zoz ?_ | refine zoa fun vr lr hr => ?_ | ((first | apply ao_call | apply aq_call); exact wants_a; (first | exact oc_func rfl | exact oc_clos rfl rfl); (exact rfl); (first | exact fun w hw => f1 w | exact fun w hw => f2 w | exact fun w hw => hrr w)) | (refine aw_is ?_; first | refine aw_seq ?_ | refine aw_block ?_ | refine aw_region ?_ | refine aw_skip ?_ | refine aw_exit ?_ | refine aw_ret ?_ | refine aw_label ?_ | refine aw_scope ?_ | refine zwt ?_ | refine zwf ?_ | refine zwd ?_) | refine zoT ?_ | refine zqT ?_ | refine zwT ?_ | refine zoF ?_ | refine zqF ?_ | refine zwF ?_ | refine zp ?_ | refine ib_exit ?_ | refine ib_other ?_ | refine zr1 ?_ | refine zr2 ?_ | refine zr3 ?_ | refine zrt ?_ | refine zrc ?_ | refine zrd ?_ | refine zoS (fun _ => ?_) (fun _ => ?_) | refine zqS (fun _ => ?_) (fun _ => ?_) | refine zwS (fun _ => ?_) (fun _ => ?_))
    all_goals exact fun w' hw => ⟨_, rfl, hw.below, _, RowB.nil, fun _ _ h => by cases h⟩
  rw [hrb, Bool.not_true, Bool.false_or] at hbad
  rw [hrb] at hrr
  rw [hup hrb] at hbad
  cases hlt : lt (lastN outs) nm
  · rw [hbad, hlt, Bool.not_false, Bool.or_true, if_pos rfl] at hpar
    rw [← hpar]
    have hlb : (Op.bytesLess nm (lastN outs) || nm == lastN outs) = true := by rw [leq_lt, hlt]; rfl
    repeat' (first | refine ao_nil ?_ | refine aq_nil ?_ | refine zov ?_ | refine zqv ?_ | refine zok ?_ | refine zqk ?_ | refine zon fun _ => ?_ | refine zow ?_ | refine zox ?_ | refine zoz ?_ | refine zoa fun vr lr hr => ?_ | ((first | apply ao_call | apply aq_call); exact wants_a; (first | exact oc_func rfl | exact oc_clos rfl rfl); (exact rfl); (first | exact fun w hw => f1 w | exact fun w hw => f2 w | exact fun w hw => hrr w)) | (refine aw_is ?_; first | refine aw_seq ?_ | refine aw_block ?_ | refine aw_region ?_ | refine aw_skip ?_ | refine aw_exit ?_ | refine aw_ret ?_ | refine aw_label ?_ | refine aw_scope ?_ | refine zwt ?_ | refine zwf ?_ | refine zwd ?_) | refine zoT ?_ | refine zqT ?_ | refine zwT ?_ | refine zoF ?_ | refine zqF ?_ | refine zwF ?_ | refine zp ?_ | refine ib_exit ?_ | refine ib_other ?_ | refine zr1 ?_ | refine zr2 ?_ | refine zr3 ?_ | refine zrt ?_ | refine zrc ?_ | refine zrd ?_ | refine zoS (fun _ => ?_) (fun _ => ?_) | refine zqS (fun _ => ?_) (fun _ => ?_) | refine zwS (fun _ => ?_) (fun _ => ?_))
    all_goals exact fun w' hw => ⟨_, rfl, hw.below, _, RowB.nil, fun _ _ h => by cases h⟩
  have hlb : (Op.bytesLess nm (lastN outs) || nm == lastN outs) = false := by rw [leq_lt, hlt]; rfl
  by_cases h16 : outs.length = 16
  · rw [hbad, show (outs.length == 16) = true from beq_iff_eq.2 h16, Bool.true_or, if_pos rfl] at hpar
    rw [← hpar]
    repeat' (first | refine ao_nil ?_ | refine aq_nil ?_ | refine zov ?_ | refine zqv ?_ | refine zok ?_ | refine zqk ?_ | refine zon fun _ => ?_ | refine zow ?_ | refine zox ?_ | refine zoz ?_ | refine zoa fun vr lr hr => ?_ | ((first | apply ao_call | apply aq_call); exact wants_a; (first | exact oc_func rfl | exact oc_clos rfl rfl); (exact rfl); (first | exact fun w hw => f1 w | exact fun w hw => f2 w | exact fun w hw => hrr w)) | (refine aw_is ?_; first | refine aw_seq ?_ | refine aw_block ?_ | refine aw_region ?_ | refine aw_skip ?_ | refine aw_exit ?_ | refine aw_ret ?_ | refine aw_label ?_ | refine aw_scope ?_ | refine zwt ?_ | refine zwf ?_ | refine zwd ?_) | refine zoT ?_ | refine zqT ?_ | refine zwT ?_ | refine zoF ?_ | refine zqF ?_ | refine zwF ?_ | refine zp ?_ | refine ib_exit ?_ | refine ib_other ?_ | refine zr1 ?_ | refine zr2 ?_ | refine zr3 ?_ | refine zrt ?_ | refine zrc ?_ | refine zrd ?_ | refine zoS (fun _ => ?_) (fun _ => ?_) | refine zqS (fun _ => ?_) (fun _ => ?_) | refine zwS (fun _ => ?_) (fun _ => ?_))
    all_goals exact fun w' hw => ⟨_, rfl, hw.below, _, RowB.nil, fun _ _ h => by cases h⟩
  rw [hbad, show (outs.length == 16) = false from beq_eq_false_iff_ne.2 h16, hlt, Bool.not_true, Bool.or_false, if_neg (by decide)] at hpar
  by_cases hpe : pe = 0
  · subst hpe
    rw [if_neg (by simp)] at hpar
    by_cases hend : p = l.length
    · rw [if_pos hend] at hpar
      rw [decide_eq_false (show ¬ p < l.length by omega)] at f1
      repeat' (first | refine ao_nil ?_ | refine aq_nil ?_ | refine zov ?_ | refine zqv ?_ | refine zok ?_ | refine zqk ?_ | refine zon fun _ => ?_ | refine zow ?_ | refine zox ?_ | refine zoz ?_ | refine zoa fun vr lr hr => ?_ | ((first | apply ao_call | apply aq_call); exact wants_a; (first | exact oc_func rfl | exact oc_clos rfl rfl); (exact rfl); (first | exact fun w hw => f1 w | exact fun w hw => f2 w | exact fun w hw => hrr w | exact fun w hw => fq w (hG.below hw.below))) | (refine aw_is ?_; first | refine aw_seq ?_ | refine aw_block ?_ | refine aw_region ?_ | refine aw_skip ?_ | refine aw_exit ?_ | refine aw_ret ?_ | refine aw_label ?_ | refine aw_scope ?_ | refine zwt ?_ | refine zwf ?_ | refine zwd ?_) | refine zoT ?_ | refine zqT ?_ | refine zwT ?_ | refine zoF ?_ | refine zqF ?_ | refine zwF ?_ | refine zp ?_ | refine ib_exit ?_ | refine ib_other ?_ | refine zr1 ?_ | refine zr2 ?_ | refine zr3 ?_ | refine zrt ?_ | refine zrc ?_ | refine zrd ?_ | refine zoS (fun _ => ?_) (fun _ => ?_) | refine zqS (fun _ => ?_) (fun _ => ?_) | refine zwS (fun _ => ?_) (fun _ => ?_))
      all_goals exact lq_normal' ⟨(l.drop (p + 1)).length + 1, false, _, _, _, outs ++ [(nm, pn)], rfl, by omega, by omega, row_addR (by assumption), by simp; omega, hpar, rfl, rfl⟩ (by simp) (sub_cons rfl (sub_cons rfl (sub_cons' rfl (by rw [lastN_snoc]) (sub_cons rfl sub_nil)))) hsub_a
    · rw [if_neg hend] at hpar
      rw [decide_eq_true (show p < l.length by omega)] at f1
      repeat' (first | refine ao_nil ?_ | refine aq_nil ?_ | refine zov ?_ | refine zqv ?_ | refine zok ?_ | refine zqk ?_ | refine zon fun _ => ?_ | refine zow ?_ | refine zox ?_ | refine zoz ?_ | refine zoa fun vr lr hr => ?_ | ((first | apply ao_call | apply aq_call); exact wants_a; (first | exact oc_func rfl | exact oc_clos rfl rfl); (exact rfl); (first | exact fun w hw => f1 w | exact fun w hw => f2 w | exact fun w hw => hrr w | exact fun w hw => fq w (hG.below hw.below))) | (refine aw_is ?_; first | refine aw_seq ?_ | refine aw_block ?_ | refine aw_region ?_ | refine aw_skip ?_ | refine aw_exit ?_ | refine aw_ret ?_ | refine aw_label ?_ | refine aw_scope ?_ | refine zwt ?_ | refine zwf ?_ | refine zwd ?_) | refine zoT ?_ | refine zqT ?_ | refine zwT ?_ | refine zoF ?_ | refine zqF ?_ | refine zwF ?_ | refine zp ?_ | refine ib_exit ?_ | refine ib_other ?_ | refine zr1 ?_ | refine zr2 ?_ | refine zr3 ?_ | refine zrt ?_ | refine zrc ?_ | refine zrd ?_ | refine zoS (fun _ => ?_) (fun _ => ?_) | refine zqS (fun _ => ?_) (fun _ => ?_) | refine zwS (fun _ => ?_) (fun _ => ?_))
      all_goals exact lq_normal' ⟨n, true, _, _, _, outs ++ [(nm, pn)], rfl, by omega, by omega, row_addR (by assumption), by simp; omega, hpar, rfl, rfl⟩ (by simp; omega) (sub_cons rfl (sub_cons rfl (sub_cons' rfl (by rw [lastN_snoc]) (sub_cons rfl sub_nil)))) hsub_a
  · rw [if_pos (by simpa using hpe)] at hpar
    rw [← hpar]
    have hpb : (pe != 0) = true := bne_iff_ne.2 hpe
    repeat' (first | refine ao_nil ?_ | refine aq_nil ?_ | refine zov ?_ | refine zqv ?_ | refine zok ?_ | refine zqk ?_ | refine zon fun _ => ?_ | refine zow ?_ | refine zox ?_ | refine zoz ?_ | refine zoa fun vr lr hr => ?_ | ((first | apply ao_call | apply aq_call); exact wants_a; (first | exact oc_func rfl | exact oc_clos rfl rfl); (exact rfl); (first | exact fun w hw => f1 w | exact fun w hw => f2 w | exact fun w hw => hrr w | exact fun w hw => fq w (hG.below hw.below))) | (refine aw_is ?_; first | refine aw_seq ?_ | refine aw_block ?_ | refine aw_region ?_ | refine aw_skip ?_ | refine aw_exit ?_ | refine aw_ret ?_ | refine aw_label ?_ | refine aw_scope ?_ | refine zwt ?_ | refine zwf ?_ | refine zwd ?_) | refine zoT ?_ | refine zqT ?_ | refine zwT ?_ | refine zoF ?_ | refine zqF ?_ | refine zwF ?_ | refine zp ?_ | refine ib_exit ?_ | refine ib_other ?_ | refine zr1 ?_ | refine zr2 ?_ | refine zr3 ?_ | refine zrt ?_ | refine zrc ?_ | refine zrd ?_ | refine zoS (fun _ => ?_) (fun _ => ?_) | refine zqS (fun _ => ?_) (fun _ => ?_) | refine zwS (fun _ => ?_) (fun _ => ?_))
    all_goals exact fun w' hw => ⟨_, rfl, hw.below, _, RowB.nil, fun _ _ h => by cases h⟩
end Vec
end Go.Proofs.YteclgkemggmabaaDoor
