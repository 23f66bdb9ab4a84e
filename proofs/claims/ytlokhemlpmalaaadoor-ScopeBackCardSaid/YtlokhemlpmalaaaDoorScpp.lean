/- Contract of the landed Parse of layer 6; conditions: a text of at most 10,000 bytes, the words as they were laid. -/
import Derived.Test.YtlokhemlpmalaaaDoorScpd
import Derived.Test.YtlokhemlpmalaaaDoorScpg
import Derived.Test.YtlokhemlpmalaaaDoorScpy
namespace Go.Proofs.YtlokhemlpmalaaaDoor
namespace Scp
open Go Go.RowKit Sx Lab
attribute [local irreducible] Go.Calls

theorem splK_mem (c : UInt8) : ∀ (k : Nat) (l : Nm), ∀ p ∈ splK c k l, p.length ≤ l.length
  | 0, l, p, h => by
    obtain rfl : p = l := by simpa [splK] using h
    exact Nat.le_refl _
  | k + 1, l, p, h => by
    unfold splK at h
    split at h
    · rcases List.mem_cons.1 h with rfl | h
      · rw [List.length_take]; omega
      · have := splK_mem c k _ p h
        rw [List.length_drop] at this
        omega
    · obtain rfl : p = l := by simpa using h
      exact Nat.le_refl _
theorem splN_len (c : UInt8) (l : Nm) : 1 ≤ (splN c l).length ∧ (splN c l).length ≤ 9 := by
  have := splK_len c (min 9 (l.length + 1) - 1) l
  unfold splN
  omega
theorem word_nat (k : Nat) (h : k < 8) : wordsV[k]? = some (S (opN (k : Int))) := by
  obtain rfl | rfl | rfl | rfl | rfl | rfl | rfl | rfl : k = 0 ∨ k = 1 ∨ k = 2 ∨ k = 3 ∨ k = 4 ∨ k = 5 ∨ k = 6 ∨ k = 7 := by omega
  all_goals rfl
theorem list_le (p : Nm) : (listP p).length ≤ p.length := by
  unfold listP
  split
  · rw [List.length_drop]; omega
  · simp

theorem cut2 {l0 ls X : Hp} : Cut (l0 ++ (ls ++ X)) (l0 ++ ls) X := by
  unfold Cut
  rw [List.append_assoc]

set_option maxHeartbeats 32000000 in
theorem pparse_ok (l : Nm) (hl : l.length ≤ 10000) (w : World) (hG : Glo w) :
    Calls Tryd.prog 19 #[S l] w fun e w' => ∃ r, e = .returned (.tuple #[r, I (parseS l).2]) ∧ NewD (DScp (parseS l).1) w w' r := by
  refine calls2 (args := [S l]) Tryd.func19 rfl rfl rfl rfl ?_
  by_cases hall : l = [97, 108, 108]
  · subst hall
    rw [parse_all]
    have hb : (([97, 108, 108] : Nm) == [97, 108, 108]) = true := rfl
    repeat' (first | refine aw_seq ?_ | refine zz ?_ | refine zon fun _ => ?_ | refine zoa fun vr lr hr => ?_ | refine zoS (fun _ => ?_) (fun _ => ?_) | refine zqS (fun _ => ?_) (fun _ => ?_) | refine zwS (fun _ => ?_) (fun _ => ?_))
    exact fun w' hw => ⟨_, rfl, hw.toD rfl Cut.nil DScp.nil⟩
  have hb : (l == [97, 108, 108]) = false := beq_eq_false_iff_ne.2 hall
  have hs1 := fun w => splitn_ok l 59 (by omega) w
  obtain ⟨n1, n9⟩ := splN_len 59 l
  have hsm : ∀ p ∈ splN 59 l, p.length ≤ l.length := splK_mem 59 _ l
  have hyes : ∀ ts : List Trm, (splN 59 l).map termL = ts.map some → rightS ts = true → parseS l = (ts, 0) := fun ts h hr => parse_yes h hr
  have hno : ∀ ts : List Trm, (splN 59 l).map termL = ts.map some → rightS ts = false → parseS l = ([], 2) := fun ts h hr => parse_no hall fun ts' h' => by
    rw [h] at h'
    have := List.map_inj_right (f := some) (fun _ _ h => Option.some.inj h) |>.1 h'
    rw [← this]
    exact hr
  have hnon : ∀ p ∈ splN 59 l, termL p = none → parseS l = ([], 2) := fun p hp h => parse_none hall hp h
  generalize splN 59 l = pcs at hs1 n1 n9 hsm hyes hno hnon
  generalize parseS l = out at hyes hno hnon
  repeat' (first | refine aw_seq ?_ | refine zz ?_ | refine zon fun _ => ?_ | refine zoa fun vr lr hr => ?_ | (apply ao_callr; exact wants_a; (exact oc_func rfl); (exact rfl); (first | exact fun w hw => hs1 w); intro vr lr hr) | refine zoS (fun _ => ?_) (fun _ => ?_) | refine zqS (fun _ => ?_) (fun _ => ?_) | refine zwS (fun _ => ?_) (fun _ => ?_))
  revert vr lr hr
  intro v5 k5 r5
  obtain ⟨g5, cap5, cs5, rfl, rfl, hc5⟩ := r5.cells_all cellsS_len (by omega)
  repeat' (first | refine aw_seq ?_ | refine zz ?_ | refine zon fun _ => ?_ | refine zoa fun vr lr hr => ?_ | refine zoS (fun _ => ?_) (fun _ => ?_) | refine zqS (fun _ => ?_) (fun _ => ?_) | refine zwS (fun _ => ?_) (fun _ => ?_))
  refine aw_for (t0 := [(4, .slice none 0 0), (16, .slice (some ⟨g5, 0, none⟩) pcs.length cap5), (17, I pcs.length), (18, I (0 : Nat))])
    (fun q t H => ∃ (i : Nat) (ps : List (Value × Trm)) (l0 ls : Hp) (v : Value), q = pcs.length - i ∧ i ≤ pcs.length ∧ (trms ps).map some = (pcs.take i).map termL ∧ (∀ p ∈ ps, wfN p.2.2) ∧ RowB 28 2 v l0 ps.length (ps.flatMap cellsT) ∧ Parts KT ls ps ∧
      t = [(4, v), (16, .slice (some ⟨g5, 0, none⟩) pcs.length cap5), (17, I pcs.length), (18, I i)] ∧ H = l0 ++ (ls ++ ([(g5, .cells cs5.toArray 9)] ++ [])))
    ⟨0, [], [], [], _, rfl, by omega, rfl, fun p hp => (by cases hp), RowB.nil, Parts.nil, rfl, rfl⟩ (by repeat (first | exact sub_nil | refine sub_cons rfl ?_)) ?_
  rintro q t H ⟨i, ps, l0, ls, v, rfl, hi, hts, hwf, hrow, hk, rfl, rfl⟩
  have hpl : ps.length = i := by
    have := congrArg List.length hts
    rw [List.length_map, List.length_map, List.length_map, List.length_take] at this
    omega
  by_cases hlt : i < pcs.length
  · obtain ⟨pc, hpc⟩ := getI hlt
    have hpm := List.mem_of_getElem? hpc
    have hpcl := hsm pc hpm
    have e0 : cs5[0 + (i : Int).toNat * 1]? = some (S pc) := hc5 i pc (i : Int) 0 _ hpc rfl rfl
    have hct := fun w => strings_Cut_ok pc 58 (by omega) w
    rw [cut_p] at hct
    repeat' (first | refine aw_seq ?_ | ((first | apply ao_val | apply aq_val); exact wants_a; (first | exact ov_load_ga rfl hG rfl rfl | exact ov_a); (exact rfl)) | refine zy ?_ | refine zon fun _ => ?_ | refine zoa fun vr lr hr => ?_ | ((first | apply ao_call | apply aq_call); exact wants_a; (first | exact oc_func rfl | exact oc_clos rfl rfl); (exact rfl); (first | exact fun w hw => hct w)) | refine zoS (fun _ => ?_) (fun _ => ?_) | refine zqS (fun _ => ?_) (fun _ => ?_) | refine zwS (fun _ => ?_) (fun _ => ?_))
    have hvl : ∀ x ∈ valsP pc, x.length ≤ 10000 := fun x hx => by
      unfold valsP at hx
      split at hx
      · have := splK_mem 44 _ _ x hx
        have := list_le pc
        omega
      · cases hx
    have hvn : (valsP pc).length ≤ 9 := by
      unfold valsP
      split
      · exact (splN_len _ _).2
      · simp
    have hstep : ∀ (op : Int) (u : Value), opTo 8 (wordP pc) = op → 0 ≤ op → (trms (ps ++ [(u, op, valsP pc)])).map some = (pcs.take (i + 1)).map termL := fun op u ho h0 => by
      rw [show trms (ps ++ [(u, op, valsP pc)]) = trms ps ++ [(op, valsP pc)] from List.map_append, List.map_append, hts, List.take_add_one, hpc, List.map_append]
      show _ ++ [some (op, valsP pc)] = _ ++ [termL pc]
      unfold termL
      rw [ho, if_neg (by omega)]
    have hwm : ∀ (u : Value) (op : Int), ∀ p ∈ ps ++ [(u, op, valsP pc)], wfN p.2.2 := fun u op p hp => by
      rcases List.mem_append.1 hp with hp | hp
      · exact hwf p hp
      · obtain rfl : p = (u, op, valsP pc) := by simpa using hp
        exact ⟨by simp only; omega, fun v hv => by have := hvl v hv; omega⟩
    have hnow : (∀ j, j < 8 → opN ((j : Nat) : Int) ≠ wordP pc) → out = ([], 2) := fun h => hnon pc hpm (by
      unfold termL
      rw [to_none h, if_pos (by decide)])
    have hto : ∀ k : Nat, k < 8 → opN (k : Int) = wordP pc → opTo 8 (wordP pc) = (k : Int) := fun k h8 hk => by
      rw [← hk]
      exact (op_byte ⟨by omega, by omega⟩).2.1
    have hvals : (0 ≤ Lib.indexByte pc 58 → valsP pc = splN 44 (listP pc)) ∧ (¬ 0 ≤ Lib.indexByte pc 58 → valsP pc = []) := by
      unfold valsP
      exact ⟨fun h => if_pos h, fun h => if_neg h⟩
    have hs2 := fun w => splitn_ok (listP pc) 44 (by have := list_le pc; omega) w
    generalize wordP pc = wd at hstep hnow hto
    generalize listP pc = li at hvals hs2
    generalize valsP pc = va at hvl hvn hstep hwm hvals
    refine aw_for (t0 := [(7, S wd), (8, S li), (9, .bool (decide (0 ≤ Lib.indexByte pc 58))), (28, .agg wordsV.toArray), (4, v), (16, .slice (some ⟨g5, 0, none⟩) pcs.length cap5), (17, I pcs.length), (18, I i), (29, I (0 : Nat))])
      (fun q t H => ∃ k : Nat, q = 8 - k ∧ k ≤ 8 ∧ (∀ j, j < k → opN ((j : Nat) : Int) ≠ wd) ∧
        t = [(7, S wd), (8, S li), (9, .bool (decide (0 ≤ Lib.indexByte pc 58))), (28, .agg wordsV.toArray), (4, v), (16, .slice (some ⟨g5, 0, none⟩) pcs.length cap5), (17, I pcs.length), (18, I i), (29, I k)] ∧
        H = l0 ++ (ls ++ ([(g5, .cells cs5.toArray 9)] ++ [])))
      ⟨0, rfl, by omega, fun j hj => by omega, rfl, rfl⟩ (by repeat (first | exact sub_nil | refine sub_cons rfl ?_)) ?_
    rintro q t H ⟨k, rfl, hk8, hne, rfl, rfl⟩
    by_cases hkl : k < 8
    · have hwk := word_nat k hkl
      by_cases hna : opN (k : Int) = wd
      · have hb2 : (opN (k : Int) != wd) = false := bne_eq_false_iff_eq.2 hna
        have h1 := hto k hkl hna
        by_cases hli : 0 ≤ Lib.indexByte pc 58
        · have hd : decide (0 ≤ Lib.indexByte pc 58) = true := decide_eq_true hli
          rw [hvals.1 hli] at hstep hwm
          repeat' (first | refine aw_seq ?_ | ((first | apply ao_val | apply aq_val); exact wants_a; (first | exact ov_aindex1 rfl rfl rfl hkl hwk | exact ov_a); (exact rfl)) | refine zy ?_ | refine zon fun _ => ?_ | refine zoa fun vr lr hr => ?_ | (apply ao_callr; exact wants_a; (exact oc_func rfl); (exact rfl); (first | exact fun w hw => hs2 w); intro vr lr hr) | refine zoS (fun _ => ?_) (fun _ => ?_) | refine zqS (fun _ => ?_) (fun _ => ?_) | refine zwS (fun _ => ?_) (fun _ => ?_))
          revert vr lr hr
          intro v10 k10 r10
          obtain ⟨a10, c10, rfl⟩ := r10.len
          repeat' (first | refine aw_seq ?_ | refine zz ?_ | refine zon fun _ => ?_ | refine zoa fun vr lr hr => ?_ | refine zoS (fun _ => ?_) (fun _ => ?_) | refine zqS (fun _ => ?_) (fun _ => ?_) | refine zwS (fun _ => ?_) (fun _ => ?_))
          exact lq_normal' (H' := lr ++ (k10 ++ (ls ++ ([(g5, .cells cs5.toArray 9)] ++ [])))) ⟨i + 1, ps ++ [(_, (k : Int), splN 44 li)], lr, k10 ++ ls, vr, rfl, by omega, hstep _ _ h1 (by omega), hwm _ _, scp_snoc hr, hk.snoc (l := k10) r10, rfl, by rw [List.append_assoc]⟩ (by omega) (by repeat (first | exact sub_nil | refine sub_cons rfl ?_)) hsub_a
        · have hd : decide (0 ≤ Lib.indexByte pc 58) = false := decide_eq_false hli
          rw [hvals.2 hli] at hstep hwm
          repeat' (first | refine aw_seq ?_ | ((first | apply ao_val | apply aq_val); exact wants_a; (first | exact ov_aindex1 rfl rfl rfl hkl hwk | exact ov_a); (exact rfl)) | refine zy ?_ | refine zon fun _ => ?_ | refine zoa fun vr lr hr => ?_ | refine zoS (fun _ => ?_) (fun _ => ?_) | refine zqS (fun _ => ?_) (fun _ => ?_) | refine zwS (fun _ => ?_) (fun _ => ?_))
          exact lq_normal' (H' := lr ++ (ls ++ ([(g5, .cells cs5.toArray 9)] ++ []))) ⟨i + 1, ps ++ [(.slice none 0 0, (k : Int), [])], lr, [] ++ ls, vr, rfl, by omega, hstep _ _ h1 (by omega), hwm _ _, scp_snoc hr, hk.snoc (l := []) (show KT (.slice none 0 0, (k : Int), []) [] from RowB.nil), rfl, rfl⟩ (by omega) (by repeat (first | exact sub_nil | refine sub_cons rfl ?_)) hsub_a
      · have hb2 : (opN (k : Int) != wd) = true := bne_iff_ne.2 hna
        repeat' (first | refine aw_seq ?_ | ((first | apply ao_val | apply aq_val); exact wants_a; (first | exact ov_aindex1 rfl rfl rfl hkl hwk | exact ov_a); (exact rfl)) | refine zy ?_ | refine zon fun _ => ?_ | refine zoa fun vr lr hr => ?_ | refine zoS (fun _ => ?_) (fun _ => ?_) | refine zqS (fun _ => ?_) (fun _ => ?_) | refine zwS (fun _ => ?_) (fun _ => ?_))
        exact lq_normal' ⟨k + 1, rfl, by omega, fun j hj => by
          by_cases e1 : j = k
          · subst e1; exact hna
          · exact hne j (by omega), rfl, rfl⟩ (by omega) (by repeat (first | exact sub_nil | refine sub_cons rfl ?_)) hsub_a
    · obtain rfl : k = 8 := by omega
      rw [hnow hne]
      repeat' (first | refine aw_seq ?_ | refine zz ?_ | refine zon fun _ => ?_ | refine zoa fun vr lr hr => ?_ | refine zoS (fun _ => ?_) (fun _ => ?_) | refine zqS (fun _ => ?_) (fun _ => ?_) | refine zwS (fun _ => ?_) (fun _ => ?_))
      exact fun w' hw => ⟨_, rfl, hw.toD rfl Cut.nil DScp.nil⟩
  · obtain rfl : i = pcs.length := by omega
    rw [List.take_length] at hts
    have hwp : wfP ps := ⟨by omega, hwf⟩
    have c1 := fun w u (h : ScpAt w u ps) => pright_ok u ps hwp w h
    cases hr : rightS (trms ps)
    · rw [hr] at c1
      rw [hno _ hts.symm hr]
      repeat' (first | refine aw_seq ?_ | refine zz ?_ | refine zon fun _ => ?_ | refine zoa fun vr lr hr => ?_ | ((first | apply ao_call | apply aq_call); exact wants_a; (first | exact oc_func rfl | exact oc_clos rfl rfl); (exact rfl); (first | exact fun w hw => c1 w _ (scp_at hw hrow hk cut2))) | refine zoS (fun _ => ?_) (fun _ => ?_) | refine zqS (fun _ => ?_) (fun _ => ?_) | refine zwS (fun _ => ?_) (fun _ => ?_))
      exact fun w' hw => ⟨_, rfl, hw.toD rfl Cut.nil DScp.nil⟩
    · rw [hr] at c1
      rw [hyes _ hts.symm hr]
      repeat' (first | refine aw_seq ?_ | refine zz ?_ | refine zon fun _ => ?_ | refine zoa fun vr lr hr => ?_ | ((first | apply ao_call | apply aq_call); exact wants_a; (first | exact oc_func rfl | exact oc_clos rfl rfl); (exact rfl); (first | exact fun w hw => c1 w _ (scp_at hw hrow hk cut2))) | refine zoS (fun _ => ?_) (fun _ => ?_) | refine zqS (fun _ => ?_) (fun _ => ?_) | refine zwS (fun _ => ?_) (fun _ => ?_))
      exact fun w' hw => ⟨_, rfl, hw.toD rfl cut2 ⟨ps, l0, ls, rfl, rfl, hrow, hk⟩⟩
end Scp
end Go.Proofs.YtlokhemlpmalaaaDoor
