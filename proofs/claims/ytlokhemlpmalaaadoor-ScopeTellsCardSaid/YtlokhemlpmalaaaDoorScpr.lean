/- Contract of the document's answer for layer 6: Parse; conditions: a text of at most 10,000 bytes. -/
import Derived.Test.YtlokhemlpmalaaaDoorSxk
import Derived.Test.YtlokhemlpmalaaaDoorScpq
import Derived.Test.YtlokhemlpmalaaaDoorScpu
namespace Go.Proofs.YtlokhemlpmalaaaDoor
namespace Scp
open Go Go.RowKit Sx Lab
attribute [local irreducible] Go.Calls

/-- The op below k that has this name; -1, if none has. -/
def opTo : Nat → Nm → Int
  | 0, _ => -1
  | k + 1, m => if opN (k : Int) = m then (k : Int) else opTo k m
def termP (p : Nm) : Trm :=
  match splitL 58 p with
  | [] => (-1, [])
  | [a] => (opTo 8 a, [])
  | a :: b :: _ => (opTo 8 a, splitL 44 b)
def outP (s : Nm) : List Trm := if s = [97, 108, 108] then [] else (splitL 59 s).map termP
def parseS (s : Nm) : List Trm × Int := if (rightS (outP s) && textS (outP s) == s) = true then (outP s, 0) else ([], 2)

def KT (p : Value × Trm) (l : Hp) : Prop := RowB 9 1 p.1 l p.2.2.length (p.2.2.flatMap cellsS)
/-- A scope in new memory. -/
def DScp (ts : List Trm) (v : Value) (l : Hp) : Prop := ∃ ps l0 ls, trms ps = ts ∧ l = l0 ++ ls ∧ RowB 28 2 v l0 ps.length (ps.flatMap cellsT) ∧ Parts KT ls ps
theorem DScp.nil : DScp [] (.slice none 0 0) [] := ⟨[], [], [], rfl, rfl, RowB.nil, Parts.nil⟩
theorem scp_at {E : Env} {H R l0 ls : Hp} {w : World} {v : Value} {ps : List (Value × Trm)} (h : RepH E H w) (hr : RowB 28 2 v l0 ps.length (ps.flatMap cellsT)) (hk : Parts KT ls ps) (hc : Cut H (l0 ++ ls) R) : ScpAt w v ps :=
  ⟨h.oldr hr hc.fst, fun p hp => by
    obtain ⟨l, R', hc2, hkt⟩ := hk.at hp
    exact h.oldr hkt (hc.snd.trans hc2)⟩
theorem txt_at {E : Env} {H R R' l0 ls l : Hp} {w : World} {p : Value × Trm} (h : RepH E H w) (hk : KT p l) (hl : Cut ls l R') (hc : Cut H (l0 ++ ls) R) : TxtAt w p.1 p.2.2 := h.oldr hk (hc.snd.trans hl)
theorem scp_snoc {v : Value} {k : Hp} {ps : List (Value × Trm)} {u : Value} {op : Int} {vs : List Nm} {e : TypeId} (h : RowB e 2 v k (ps.length + 1) (ps.flatMap cellsT ++ [I op, u])) : RowB e 2 v k (ps ++ [(u, op, vs)]).length ((ps ++ [(u, op, vs)]).flatMap cellsT) := by
  rw [List.length_append, List.flatMap_append]
  exact h
def headV : List Nm → List Nm
  | [] => []
  | b :: _ => splitL 44 b
theorem term_p {p a : Nm} {m : List Nm} (h : splitL 58 p = a :: m) : termP p = (opTo 8 a, headV m) := by
  unfold termP
  cases m with
  | nil => simp only [h]; rfl
  | cons b r => simp only [h]; rfl

set_option maxHeartbeats 32000000 in
theorem rparse_ok (l : Nm) (hl : l.length ≤ 10000) (w : World) :
    Calls Tryd.prog 20 #[S l] w fun e w' => ∃ r, e = .returned (.tuple #[r, I (parseS l).2]) ∧ NewD (DScp (parseS l).1) w w' r := by
  refine calls2 (args := [S l]) Tryd.func20 rfl rfl rfl rfl ?_
  have hs1 := fun w => rsplit_ok l 59 (by omega) w
  have hs2 := split_len 59 l
  repeat' (first | refine aw_cutI_at (id := 18) (fun t H => ∃ ps l0 ls v, trms ps = outP l ∧ wfP ps ∧ RowB 28 2 v l0 ps.length (ps.flatMap cellsT) ∧ Parts KT ls ps ∧ t = [(0, S l), (4, v)] ∧ H = (l0 ++ ls) ++ []) ?_ ?_ | refine aw_cutI_at2 (id := 18) (fun t H => ∃ ps l0 ls v, trms ps = outP l ∧ wfP ps ∧ RowB 28 2 v l0 ps.length (ps.flatMap cellsT) ∧ Parts KT ls ps ∧ t = [(0, S l), (4, v)] ∧ H = (l0 ++ ls) ++ []) ?_ ?_ | refine aw_seq ?_ | refine zz ?_ | refine zon fun _ => ?_ | refine zoa fun vr lr hr => ?_ | (apply ao_callr; exact wants_a; (exact oc_func rfl); (exact rfl); (first | exact fun w hw => hs1 w); intro vr lr hr) | refine zoS (fun _ => ?_) (fun _ => ?_) | refine zqS (fun _ => ?_) (fun _ => ?_) | refine zwS (fun _ => ?_) (fun _ => ?_))
  · revert vr lr hr
    intro v5 k5 r5
    obtain ⟨a5, c5, rfl⟩ := r5.len
    refine aw_for (t0 := [(0, S l), (4, .slice none 0 0), (5, .slice a5 (splitL 59 l).length c5), (6, I (0 : Nat))])
      (fun q t H => ∃ (i : Nat) (ps : List (Value × Trm)) (l0 ls : Hp) (v : Value), q = (splitL 59 l).length - i ∧ i ≤ (splitL 59 l).length ∧ trms ps = ((splitL 59 l).take i).map termP ∧ (∀ p ∈ ps, wfN p.2.2) ∧ RowB 28 2 v l0 ps.length (ps.flatMap cellsT) ∧ Parts KT ls ps ∧
        t = [(0, S l), (4, v), (5, .slice a5 (splitL 59 l).length c5), (6, I i)] ∧ H = l0 ++ (ls ++ (k5 ++ [])))
      ⟨0, [], [], [], _, rfl, by omega, rfl, fun p hp => (by cases hp), RowB.nil, Parts.nil, rfl, rfl⟩ (by repeat (first | exact sub_nil | refine sub_cons rfl ?_)) ?_
    rintro q t H ⟨i, ps, l0, ls, v, rfl, hi, hts, hwf, hrow, hk, rfl, rfl⟩
    have hpl : ps.length = i := by
      have := congrArg List.length hts
      rw [List.length_map, List.length_map, List.length_take] at this
      omega
    by_cases hlt : i < (splitL 59 l).length
    · obtain ⟨pc, hpc⟩ := getI hlt
      have hpm := hs2.2 pc (List.mem_of_getElem? hpc)
      obtain ⟨g5, cap5, cs5, hv5, rfl, hc5⟩ := r5.cells_all cellsS_len (by omega)
      cases hv5
      have e0 : cs5[0 + (i : Int).toNat * 1]? = some (S pc) := hc5 i pc (i : Int) 0 _ hpc rfl rfl
      have hsp := fun w => rsplit_ok pc 58 (by omega) w
      have hq2 := split_len 58 pc
      have htp : ∀ a m, splitL 58 pc = a :: m → termP pc = (opTo 8 a, headV m) := fun a m h => term_p h
      have hne := split_ne 58 pc
      generalize splitL 58 pc = pcs at hsp hq2 htp hne
      obtain _ | ⟨a7, m7⟩ := pcs
      · exact absurd rfl hne
      repeat' (first | refine aw_seq ?_ | refine zz ?_ | refine zon fun _ => ?_ | refine zoa fun vr lr hr => ?_ | (apply ao_callr; exact wants_a; (exact oc_func rfl); (exact rfl); (first | exact fun w hw => hsp w); intro vr lr hr) | refine zoS (fun _ => ?_) (fun _ => ?_) | refine zqS (fun _ => ?_) (fun _ => ?_) | refine zwS (fun _ => ?_) (fun _ => ?_))
      revert vr lr hr
      intro v7 k7 r7
      obtain ⟨g7, cap7, cs7, rfl, rfl, hc7⟩ := r7.cells_all cellsS_len (by simp)
      obtain ⟨n7, hn7⟩ : ∃ n, n = (a7 :: m7).length := ⟨_, rfl⟩
      rw [← hn7]
      have hn8 : n7 = m7.length + 1 := by rw [hn7]; rfl
      have e7 : cs7[0 + Int.toNat 0 * 1]? = some (S a7) := hc7 0 a7 0 0 _ rfl rfl rfl
      refine aw_for (t0 := [(0, S l), (4, v), (5, .slice (some ⟨g5, 0, none⟩) (splitL 59 l).length c5), (6, I i), (7, .slice (some ⟨g7, 0, none⟩) n7 cap7), (8, .pointer (some ⟨_, 0, none⟩)), (9, I (0 : Nat))])
        (fun q t H => ∃ (k g8 : Nat) (x : Int), q = 8 - k ∧ k ≤ 8 ∧ x = opTo k a7 ∧
          t = [(0, S l), (4, v), (5, .slice (some ⟨g5, 0, none⟩) (splitL 59 l).length c5), (6, I i), (7, .slice (some ⟨g7, 0, none⟩) n7 cap7), (8, .pointer (some ⟨g8, 0, none⟩)), (9, I k)] ∧
          H = (g8, .cells #[I x, .slice none 0 0] 28) :: ([(g7, .cells cs7.toArray 9)] ++ (l0 ++ (ls ++ ([(g5, .cells cs5.toArray 9)] ++ [])))))
        ⟨0, _, -1, rfl, by omega, rfl, rfl, rfl⟩ (by repeat (first | exact sub_nil | refine sub_cons rfl ?_)) ?_
      rintro q t H ⟨k, g8, x, rfl, hk8, hx, rfl, rfl⟩
      by_cases hkl : k < 8
      · have hnm := fun w => name_ok (k : Int) w
        have hto : opTo (k + 1) a7 = if opN (k : Int) = a7 then (k : Int) else opTo k a7 := rfl
        by_cases hna : opN (k : Int) = a7
        · have hb : (opN (k : Int) == a7) = true := beq_iff_eq.2 hna
          rw [if_pos hna] at hto
          repeat' (first | refine aw_seq ?_ | refine zz ?_ | refine zon fun _ => ?_ | refine zoa fun vr lr hr => ?_ | ((first | apply ao_call | apply aq_call); exact wants_a; (first | exact oc_func rfl | exact oc_clos rfl rfl); (exact rfl); (first | exact fun w hw => hnm w)) | refine zoS (fun _ => ?_) (fun _ => ?_) | refine zqS (fun _ => ?_) (fun _ => ?_) | refine zwS (fun _ => ?_) (fun _ => ?_))
          exact lq_normal' ⟨k + 1, g8, (k : Int), rfl, by omega, hto.symm, rfl, rfl⟩ (by omega) (by repeat (first | exact sub_nil | refine sub_cons rfl ?_)) hsub_a
        · have hb : (opN (k : Int) == a7) = false := beq_eq_false_iff_ne.2 hna
          rw [if_neg hna] at hto
          repeat' (first | refine aw_seq ?_ | refine zz ?_ | refine zon fun _ => ?_ | refine zoa fun vr lr hr => ?_ | ((first | apply ao_call | apply aq_call); exact wants_a; (first | exact oc_func rfl | exact oc_clos rfl rfl); (exact rfl); (first | exact fun w hw => hnm w)) | refine zoS (fun _ => ?_) (fun _ => ?_) | refine zqS (fun _ => ?_) (fun _ => ?_) | refine zwS (fun _ => ?_) (fun _ => ?_))
          exact lq_normal' ⟨k + 1, g8, x, rfl, by omega, by rw [hto]; exact hx, rfl, rfl⟩ (by omega) (by repeat (first | exact sub_nil | refine sub_cons rfl ?_)) hsub_a
      · obtain rfl : k = 8 := by omega
        have htm : ∀ vs, headV m7 = vs → ∀ u : Value, trms (ps ++ [(u, x, vs)]) = ((splitL 59 l).take (i + 1)).map termP := fun vs hvs u => by
          rw [List.take_add_one, hpc, List.map_append, show trms (ps ++ [(u, x, vs)]) = trms ps ++ [(x, vs)] from List.map_append, hts]
          show _ ++ [(x, vs)] = _ ++ [termP pc]
          rw [htp a7 m7 rfl, hx, hvs]
        have hwm : ∀ (u : Value) (vs : List Nm), wfN vs → ∀ p ∈ ps ++ [(u, x, vs)], wfN p.2.2 := fun u vs hvs p hp => by
          rcases List.mem_append.1 hp with hp | hp
          · exact hwf p hp
          · obtain rfl : p = (u, x, vs) := by simpa using hp
            exact hvs
        cases m7 with
        | nil =>
          have hgt : decide (1 < (n7 : Int)) = false := decide_eq_false (by simp at hn8; omega)
          repeat' (first | refine aw_seq ?_ | refine zz ?_ | refine zon fun _ => ?_ | refine zoa fun vr lr hr => ?_ | refine zoS (fun _ => ?_) (fun _ => ?_) | refine zqS (fun _ => ?_) (fun _ => ?_) | refine zwS (fun _ => ?_) (fun _ => ?_))
          exact lq_normal' (H' := lr ++ (ls ++ ([(g5, .cells cs5.toArray 9)] ++ []))) ⟨i + 1, ps ++ [(.slice none 0 0, x, [])], lr, [] ++ ls, vr, rfl, by omega, htm [] rfl _, hwm _ _ ⟨by simp, fun v hv => by cases hv⟩, scp_snoc hr, hk.snoc (l := []) (show KT (.slice none 0 0, x, []) [] from RowB.nil), rfl, rfl⟩ (by omega) (by repeat (first | exact sub_nil | refine sub_cons rfl ?_)) hsub_a
        | cons b7 z7 =>
          have hgt : decide (1 < (n7 : Int)) = true := decide_eq_true (by simp at hn8; omega)
          have e8 : cs7[0 + Int.toNat 1 * 1]? = some (S b7) := hc7 1 b7 1 0 _ rfl rfl rfl
          have hbl : b7.length ≤ pc.length := hq2.2 b7 (by simp)
          have h12 : 1 < n7 := by simp at hn8; omega
          have hs3 := fun w => rsplit_ok b7 44 (by omega) w
          have hq3 := split_len 44 b7
          repeat' (first | refine aw_seq ?_ | refine zz ?_ | refine zon fun _ => ?_ | refine zoa fun vr lr hr => ?_ | (apply ao_callr; exact wants_a; (exact oc_func rfl); (exact rfl); (first | exact fun w hw => hs3 w); intro vr lr hr) | refine zoS (fun _ => ?_) (fun _ => ?_) | refine zqS (fun _ => ?_) (fun _ => ?_) | refine zwS (fun _ => ?_) (fun _ => ?_))
          revert vr lr hr
          intro v10 k10 r10
          obtain ⟨a10, c10, rfl⟩ := r10.len
          repeat' (first | refine aw_seq ?_ | refine zz ?_ | refine zon fun _ => ?_ | refine zoa fun vr lr hr => ?_ | refine zoS (fun _ => ?_) (fun _ => ?_) | refine zqS (fun _ => ?_) (fun _ => ?_) | refine zwS (fun _ => ?_) (fun _ => ?_))
          exact lq_normal' (H' := lr ++ (k10 ++ (ls ++ ([(g5, .cells cs5.toArray 9)] ++ [])))) ⟨i + 1, ps ++ [(_, x, splitL 44 b7)], lr, k10 ++ ls, vr, rfl, by omega, htm _ rfl _, hwm _ _ ⟨by omega, fun v hv => by have := hq3.2 v hv; omega⟩, scp_snoc hr, hk.snoc (l := k10) r10, rfl, by rw [List.append_assoc]⟩ (by omega) (by repeat (first | exact sub_nil | refine sub_cons rfl ?_)) hsub_a
    · obtain rfl : i = (splitL 59 l).length := by omega
      rw [List.take_length] at hts
      repeat' (first | refine aw_seq ?_ | refine zz ?_ | refine zon fun _ => ?_ | refine zoa fun vr lr hr => ?_ | refine zoS (fun _ => ?_) (fun _ => ?_) | refine zqS (fun _ => ?_) (fun _ => ?_) | refine zwS (fun _ => ?_) (fun _ => ?_))
      exact ci_normal (H1 := (l0 ++ ls) ++ []) ⟨ps, l0, ls, v, by rw [hts]; unfold outP; rw [if_neg (by simpa using ‹(l != [97, 108, 108]) = true›)], ⟨by omega, hwf⟩, hrow, hk, rfl, rfl⟩ (by repeat (first | exact sub_nil | refine sub_cons rfl ?_)) (by rw [List.append_nil, List.append_nil, ← List.append_assoc]; exact List.sublist_append_left _ _)
  · have hla : l = [97, 108, 108] := by simpa using ‹(l != [97, 108, 108]) = false›
    exact ci_normal ⟨[], [], [], _, by unfold outP; rw [if_pos hla]; rfl, ⟨by simp, fun p hp => by cases hp⟩, RowB.nil, Parts.nil, rfl, rfl⟩ (by repeat (first | exact sub_nil | refine sub_cons rfl ?_)) hsub_a
  rintro t H ⟨ps, l0, ls, v, hts, hwf, hrow, hk, rfl, rfl⟩
  have c1 := fun w u (h : ScpAt w u ps) => rright_ok u ps hwf w h
  have c2 := fun w u (h : ScpAt w u ps) => rtext_ok u ps hwf w h
  rw [hts] at c1 c2
  unfold parseS
  generalize outP l = out at hts c1 c2
  have nil : DScp [] (.slice none 0 0) [] := DScp.nil
  cases hr : rightS out
  · rw [hr] at c1
    rw [if_neg (by simp)]
    repeat' (first | refine aw_seq ?_ | refine zz ?_ | refine zon fun _ => ?_ | refine zoa fun vr lr hr => ?_ | ((first | apply ao_call | apply aq_call); exact wants_a; (first | exact oc_func rfl | exact oc_clos rfl rfl); (exact rfl); (first | exact fun w hw => c1 w _ (scp_at hw hrow hk cut_a))) | refine zoS (fun _ => ?_) (fun _ => ?_) | refine zqS (fun _ => ?_) (fun _ => ?_) | refine zwS (fun _ => ?_) (fun _ => ?_))
    exact fun w' hw => ⟨_, rfl, hw.toD rfl Cut.nil nil⟩
  rw [hr] at c1
  by_cases htx : textS out = l
  · have hb : (textS out != l) = false := by simp [htx]
    rw [if_pos (by simp [htx])]
    repeat' (first | refine aw_seq ?_ | refine zz ?_ | refine zon fun _ => ?_ | refine zoa fun vr lr hr => ?_ | ((first | apply ao_call | apply aq_call); exact wants_a; (first | exact oc_func rfl | exact oc_clos rfl rfl); (exact rfl); (first | exact fun w hw => c1 w _ (scp_at hw hrow hk cut_a) | exact fun w hw => c2 w _ (scp_at hw hrow hk cut_a))) | refine zoS (fun _ => ?_) (fun _ => ?_) | refine zqS (fun _ => ?_) (fun _ => ?_) | refine zwS (fun _ => ?_) (fun _ => ?_))
    exact fun w' hw => ⟨_, rfl, hw.toD rfl Cut.here ⟨ps, l0, ls, hts, rfl, hrow, hk⟩⟩
  · have hb : (textS out != l) = true := by simp [htx]
    rw [if_neg (by simp [htx])]
    repeat' (first | refine aw_seq ?_ | refine zz ?_ | refine zon fun _ => ?_ | refine zoa fun vr lr hr => ?_ | ((first | apply ao_call | apply aq_call); exact wants_a; (first | exact oc_func rfl | exact oc_clos rfl rfl); (exact rfl); (first | exact fun w hw => c1 w _ (scp_at hw hrow hk cut_a) | exact fun w hw => c2 w _ (scp_at hw hrow hk cut_a))) | refine zoS (fun _ => ?_) (fun _ => ?_) | refine zqS (fun _ => ?_) (fun _ => ?_) | refine zwS (fun _ => ?_) (fun _ => ?_))
    exact fun w' hw => ⟨_, rfl, hw.toD rfl Cut.nil nil⟩
end Scp
end Go.Proofs.YtlokhemlpmalaaaDoor
