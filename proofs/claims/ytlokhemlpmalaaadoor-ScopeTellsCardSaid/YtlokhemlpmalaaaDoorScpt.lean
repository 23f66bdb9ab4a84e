/- Contracts of the document's answer for layer 6: an op's name, a term, a scope that may be; conditions: values of at most 100,000 bytes, lists of at most 100,000. -/
import Derived.Test.YtlokhemlpmalaaaDoorScpm
namespace Go.Proofs.YtlokhemlpmalaaaDoor
namespace Scp
open Go Go.RowKit Sx Lab
attribute [local irreducible] Go.Calls

theorem getI {α : Type} {l : List α} {i : Nat} (h : i < l.length) : ∃ a, l[i]? = some a := ⟨_, List.getElem?_eq_getElem h⟩
def cellsS (s : Nm) : List Value := [S s]
theorem cellsS_len (s : Nm) : (cellsS s).length = 1 := rfl
/-- Texts that came in. -/
def TxtAt (w : World) (v : Value) (vs : List Nm) : Prop := OldRow w 1 v vs.length (vs.flatMap cellsS)
theorem TxtAt.below {w w' : World} {v : Value} {vs : List Nm} (h : TxtAt w v vs) (hb : Below w.heap.size w w') : TxtAt w' v vs := OldRow.below h hb
def wfN (vs : List Nm) : Prop := vs.length ≤ 100000 ∧ ∀ v ∈ vs, v.length ≤ 100000
/-- A term's cells, its values where they lie. -/
def cellsT (p : Value × Trm) : List Value := [I p.2.1, p.1]
theorem cellsT_len (p : Value × Trm) : (cellsT p).length = 2 := rfl
/-- A scope that came in: ps are its terms, each one's values where they lie. -/
def ScpAt (w : World) (v : Value) (ps : List (Value × Trm)) : Prop := OldRow w 2 v ps.length (ps.flatMap cellsT) ∧ ∀ p ∈ ps, TxtAt w p.1 p.2.2
theorem ScpAt.below {w w' : World} {v : Value} {ps : List (Value × Trm)} (h : ScpAt w v ps) (hb : Below w.heap.size w w') : ScpAt w' v ps := ⟨OldRow.below h.1 hb, fun p hp => (h.2 p hp).below hb⟩
abbrev trms (ps : List (Value × Trm)) : List Trm := ps.map (·.2)
def wfP (ps : List (Value × Trm)) : Prop := ps.length ≤ 100000 ∧ ∀ p ∈ ps, wfN p.2.2

set_option maxHeartbeats 4000000 in
theorem name_ok (op : Int) (w : World) : Calls Tryd.prog 25 #[I op] w fun e w' => e = .returned (S (opN op)) ∧ Below w.heap.size w w' := by
  refine calls1 (args := [I op]) Tryd.func25 rfl rfl rfl rfl ?_
  by_cases hop : 0 ≤ op ∧ op ≤ 7
  · obtain rfl | rfl | rfl | rfl | rfl | rfl | rfl | rfl : op = 0 ∨ op = 1 ∨ op = 2 ∨ op = 3 ∨ op = 4 ∨ op = 5 ∨ op = 6 ∨ op = 7 := by omega
    all_goals
      repeat' (first | refine aw_seq ?_ | refine zz ?_ | refine zon fun _ => ?_ | refine zoa fun vr lr hr => ?_ | refine zoS (fun _ => ?_) (fun _ => ?_) | refine zqS (fun _ => ?_) (fun _ => ?_) | refine zwS (fun _ => ?_) (fun _ => ?_))
      exact fun w' hw => ⟨rfl, hw.below⟩
  · have hq : opN op = [] := by
      unfold opN
      repeat rw [if_neg (by omega)]
    rw [hq]
    repeat' (first | refine aw_seq ?_ | refine zz ?_ | refine zon fun _ => ?_ | refine zoa fun vr lr hr => ?_ | refine zoS (fun _ => ?_) (fun _ => ?_) | refine zqS (fun _ => ?_) (fun _ => ?_) | refine zwS (fun _ => ?_) (fun _ => ?_))
    exact fun w' hw => ⟨rfl, hw.below⟩

set_option maxHeartbeats 16000000 in
theorem term_ok (op : Int) (u : Value) (vs : List Nm) (hwf : wfN vs) (w : World) (hv : TxtAt w u vs) : Calls Tryd.prog 22 #[.agg #[I op, u]] w fun e w' => e = .returned (.bool (termB (op, vs))) ∧ Below w.heap.size w w' := by
  have hln := hwf.1
  obtain ⟨a, cp, rfl, hat⟩ := OldRow.cells cellsS_len hv
  refine calls1 (args := [.agg #[I op, .slice a vs.length cp]]) Tryd.func22 rfl rfl rfl rfl ?_
  by_cases h0 : op < 0
  · rw [show termB (op, vs) = false by unfold termB; rw [decide_eq_false (by simp only; omega)]; rfl]
    repeat' (first | refine aw_seq ?_ | refine zz ?_ | refine zon fun _ => ?_ | refine zoa fun vr lr hr => ?_ | refine zoS (fun _ => ?_) (fun _ => ?_) | refine zqS (fun _ => ?_) (fun _ => ?_) | refine zwS (fun _ => ?_) (fun _ => ?_))
    exact fun w' hw => ⟨rfl, hw.below⟩
  by_cases h7 : 7 < op
  · rw [show termB (op, vs) = false by unfold termB; rw [decide_eq_false (by simp only; omega)]; rfl]
    repeat' (first | refine aw_seq ?_ | refine zz ?_ | refine zon fun _ => ?_ | refine zoa fun vr lr hr => ?_ | refine zoS (fun _ => ?_) (fun _ => ?_) | refine zqS (fun _ => ?_) (fun _ => ?_) | refine zwS (fun _ => ?_) (fun _ => ?_))
    exact fun w' hw => ⟨rfl, hw.below⟩
  by_cases h1 : 1 < op
  · rw [show termB (op, vs) = ((vs.length : Int) == 0) by
      unfold termB
      rw [decide_eq_true (by simp only; omega), if_pos h1, Bool.eq_iff_iff]
      simp]
    repeat' (first | refine aw_seq ?_ | refine zz ?_ | refine zon fun _ => ?_ | refine zoa fun vr lr hr => ?_ | refine zoS (fun _ => ?_) (fun _ => ?_) | refine zqS (fun _ => ?_) (fun _ => ?_) | refine zwS (fun _ => ?_) (fun _ => ?_))
    exact fun w' hw => ⟨rfl, hw.below⟩
  rw [show termB (op, vs) = valsB vs by unfold termB; rw [decide_eq_true (by simp only; omega), if_neg h1]; rfl]
  repeat' (first | refine aw_seq ?_ | refine zz ?_ | refine zon fun _ => ?_ | refine zoa fun vr lr hr => ?_ | refine zoS (fun _ => ?_) (fun _ => ?_) | refine zqS (fun _ => ?_) (fun _ => ?_) | refine zwS (fun _ => ?_) (fun _ => ?_))
  refine aw_for (t0 := [(1, .pointer (some ⟨_, 0, none⟩)), (3, I (0 : Nat))]) (fun q t H => ∃ gb i : Nat, q = vs.length - i ∧ i ≤ vs.length ∧ (∀ j, j < i → valAt vs j = true) ∧ t = [(1, .pointer (some ⟨gb, 0, none⟩)), (3, I i)] ∧ H = [(gb, .cells #[I op, .slice a vs.length cp] 28)]) ⟨_, 0, rfl, by omega, fun j hj => by omega, rfl, rfl⟩ (by repeat (first | exact sub_nil | refine sub_cons rfl ?_)) ?_
  rintro q t H ⟨gb, i, rfl, hi, hall, rfl, rfl⟩
  by_cases hlt : i < vs.length
  · obtain ⟨v, he⟩ := getI hlt
    obtain ⟨g, o, rfl, hg, hc⟩ := hat i v (i : Int) he rfl
    have c0 : w.cell? ⟨g, o + (i : Int).toNat * 1, none⟩ = some (S v) := hc 0 _ rfl
    have hvl := hwf.2 v (List.mem_of_getElem? he)
    have hrr := fun w => Lab.rright_ok v (by omega) w
    cases hr : rightB v
    · rw [vals_f hlt (by unfold valAt; rw [he]; simp [hr])]
      rw [hr] at hrr
      repeat' (first | refine aw_seq ?_ | refine zz ?_ | refine zon fun _ => ?_ | refine zoa fun vr lr hr => ?_ | ((first | apply ao_call | apply aq_call); exact wants_a; (first | exact oc_func rfl | exact oc_clos rfl rfl); (exact rfl); (first | exact fun w hw => hrr w)) | refine zoS (fun _ => ?_) (fun _ => ?_) | refine zqS (fun _ => ?_) (fun _ => ?_) | refine zwS (fun _ => ?_) (fun _ => ?_))
      exact fun w' hw => ⟨rfl, hw.below⟩
    rw [hr] at hrr
    cases i with
    | zero =>
      have hok : valAt vs 0 = true := by unfold valAt; rw [he]; simp [hr]
      repeat' (first | refine aw_seq ?_ | refine zz ?_ | refine zon fun _ => ?_ | refine zoa fun vr lr hr => ?_ | ((first | apply ao_call | apply aq_call); exact wants_a; (first | exact oc_func rfl | exact oc_clos rfl rfl); (exact rfl); (first | exact fun w hw => hrr w)) | refine zoS (fun _ => ?_) (fun _ => ?_) | refine zqS (fun _ => ?_) (fun _ => ?_) | refine zwS (fun _ => ?_) (fun _ => ?_))
      exact lq_normal' ⟨gb, 1, rfl, by omega, fun j hj => (show 0 = j by omega) ▸ hok, rfl, rfl⟩ (by omega) (by repeat (first | exact sub_nil | refine sub_cons rfl ?_)) hsub_a
    | succ i =>
      obtain ⟨p, hp⟩ := getI (show i < vs.length by omega)
      obtain ⟨g', o', e1, -, hd⟩ := hat i p (((i + 1 : Nat) : Int) - 1) hp (by omega)
      cases e1
      have d0 : w.cell? ⟨g, o + (((i + 1 : Nat) : Int) - 1).toNat * 1, none⟩ = some (S p) := hd 0 _ rfl
      have hpl := hwf.2 p (List.mem_of_getElem? hp)
      have hbf := fun w => Lab.before_ok p v hpl hvl w
      cases hl : Op.bytesLess p v
      · rw [vals_f hlt (by unfold valAt; rw [he]; simp [hp, hl])]
        rw [hl] at hbf
        repeat' (first | refine aw_seq ?_ | refine zz ?_ | refine zon fun _ => ?_ | refine zoa fun vr lr hr => ?_ | ((first | apply ao_call | apply aq_call); exact wants_a; (first | exact oc_func rfl | exact oc_clos rfl rfl); (exact rfl); (first | exact fun w hw => hrr w | exact fun w hw => hbf w)) | refine zoS (fun _ => ?_) (fun _ => ?_) | refine zqS (fun _ => ?_) (fun _ => ?_) | refine zwS (fun _ => ?_) (fun _ => ?_))
        exact fun w' hw => ⟨rfl, hw.below⟩
      · have hok : valAt vs (i + 1) = true := by unfold valAt; rw [he]; simp [hr, hp, hl]
        rw [hl] at hbf
        repeat' (first | refine aw_seq ?_ | refine zz ?_ | refine zon fun _ => ?_ | refine zoa fun vr lr hr => ?_ | ((first | apply ao_call | apply aq_call); exact wants_a; (first | exact oc_func rfl | exact oc_clos rfl rfl); (exact rfl); (first | exact fun w hw => hrr w | exact fun w hw => hbf w)) | refine zoS (fun _ => ?_) (fun _ => ?_) | refine zqS (fun _ => ?_) (fun _ => ?_) | refine zwS (fun _ => ?_) (fun _ => ?_))
        exact lq_normal' ⟨gb, i + 2, rfl, by omega, fun j hj => by
          by_cases e1 : j = i + 1
          · subst e1; exact hok
          · exact hall j (by omega), rfl, rfl⟩ (by omega) (by repeat (first | exact sub_nil | refine sub_cons rfl ?_)) hsub_a
  · obtain rfl : i = vs.length := by omega
    rw [vals_t hall]
    by_cases h1 : 1 ≤ vs.length
    · rw [show decide (1 ≤ vs.length ∧ vs.length ≤ 8) = decide ((vs.length : Int) ≤ 8) by rw [Bool.eq_iff_iff]; simp; omega]
      repeat' (first | refine aw_seq ?_ | refine zz ?_ | refine zon fun _ => ?_ | refine zoa fun vr lr hr => ?_ | refine zoS (fun _ => ?_) (fun _ => ?_) | refine zqS (fun _ => ?_) (fun _ => ?_) | refine zwS (fun _ => ?_) (fun _ => ?_))
      exact fun w' hw => ⟨rfl, hw.below⟩
    · rw [decide_eq_false fun h => h1 h.1]
      repeat' (first | refine aw_seq ?_ | refine zz ?_ | refine zon fun _ => ?_ | refine zoa fun vr lr hr => ?_ | refine zoS (fun _ => ?_) (fun _ => ?_) | refine zqS (fun _ => ?_) (fun _ => ?_) | refine zwS (fun _ => ?_) (fun _ => ?_))
      exact fun w' hw => ⟨rfl, hw.below⟩

theorem right_f {ts : List Trm} {t : Trm} (ht : t ∈ ts) (h : termB t = false) : rightS ts = false := by
  unfold rightS
  rw [show ts.all termB = false from List.all_eq_false.2 ⟨t, ht, by rw [h]; decide⟩]
  rfl
theorem trm_at {ps : List (Value × Trm)} {i : Nat} {p : Value × Trm} (h : ps[i]? = some p) : (trms ps)[i]? = some p.2 := by rw [List.getElem?_map, h]; rfl
theorem term_mem {ps : List (Value × Trm)} {i : Nat} {p : Value × Trm} (h : ps[i]? = some p) : p.2 ∈ trms ps := List.mem_map_of_mem (List.mem_of_getElem? h)

set_option maxHeartbeats 8000000 in
theorem rright_ok (v : Value) (ps : List (Value × Trm)) (hwf : wfP ps) (w : World) (hv : ScpAt w v ps) : Calls Tryd.prog 10 #[v] w fun e w' => e = .returned (.bool (rightS (trms ps))) ∧ Below w.heap.size w w' := by
  have hln := hwf.1
  obtain ⟨a, cp, rfl, hat⟩ := OldRow.cells cellsT_len hv.1
  refine calls1 (args := [.slice a ps.length cp]) Tryd.func10 rfl rfl rfl rfl ?_
  repeat' (first | refine aw_seq ?_ | refine zz ?_ | refine zon fun _ => ?_ | refine zoa fun vr lr hr => ?_ | refine zoS (fun _ => ?_) (fun _ => ?_) | refine zqS (fun _ => ?_) (fun _ => ?_) | refine zwS (fun _ => ?_) (fun _ => ?_))
  refine aw_for (t0 := [(0, .slice a ps.length cp), (3, I (0 : Nat))]) (fun q t H => ∃ i : Nat, q = ps.length - i ∧ i ≤ ps.length ∧ (∀ (j : Nat) (p : Value × Trm), j < i → ps[j]? = some p → termB p.2 = true) ∧ t = [(0, .slice a ps.length cp), (3, I i)] ∧ H = []) ⟨0, rfl, by omega, fun j p hj => by omega, rfl, rfl⟩ (by repeat (first | exact sub_nil | refine sub_cons rfl ?_)) ?_
  rintro q t H ⟨i, rfl, hi, hall, rfl, rfl⟩
  by_cases hlt : i < ps.length
  · obtain ⟨⟨u, op, vs⟩, he⟩ := getI hlt
    obtain ⟨g, o, rfl, hg, hc⟩ := hat i _ (i : Int) he rfl
    have cA : ∀ (j : Nat) x, [I op, u][j]? = some x → w.cell? ⟨g, o + (i : Int).toNat * 2 + j, none⟩ = some x := hc
    have hm := List.mem_of_getElem? he
    have ht := fun w' (hb : Below w.heap.size w w') => term_ok op u vs (hwf.2 _ hm) w' ((hv.2 _ hm).below hb)
    cases hr : termB (op, vs)
    · rw [right_f (term_mem he) hr]
      rw [hr] at ht
      repeat' (first | refine aw_seq ?_ | ((first | apply ao_val | apply aq_val); exact wants_a; (first | exact ov_load_oa rfl hg cA rfl | exact ov_a); (exact rfl)) | refine zy ?_ | refine zon fun _ => ?_ | refine zoa fun vr lr hr => ?_ | ((first | apply ao_call | apply aq_call); exact wants_a; (first | exact oc_func rfl | exact oc_clos rfl rfl); (exact rfl); (first | exact fun w hw => ht w hw.below)) | refine zoS (fun _ => ?_) (fun _ => ?_) | refine zqS (fun _ => ?_) (fun _ => ?_) | refine zwS (fun _ => ?_) (fun _ => ?_))
      exact fun w' hw => ⟨rfl, hw.below⟩
    · rw [hr] at ht
      repeat' (first | refine aw_seq ?_ | ((first | apply ao_val | apply aq_val); exact wants_a; (first | exact ov_load_oa rfl hg cA rfl | exact ov_a); (exact rfl)) | refine zy ?_ | refine zon fun _ => ?_ | refine zoa fun vr lr hr => ?_ | ((first | apply ao_call | apply aq_call); exact wants_a; (first | exact oc_func rfl | exact oc_clos rfl rfl); (exact rfl); (first | exact fun w hw => ht w hw.below)) | refine zoS (fun _ => ?_) (fun _ => ?_) | refine zqS (fun _ => ?_) (fun _ => ?_) | refine zwS (fun _ => ?_) (fun _ => ?_))
      exact lq_normal ⟨i + 1, rfl, by omega, fun j x hj hx => by
        by_cases e1 : j = i
        · subst e1; rw [he] at hx; cases hx; exact hr
        · exact hall j x (by omega) hx, rfl, rfl⟩ (by omega) (by repeat (first | exact sub_nil | refine sub_cons rfl ?_))
  · obtain rfl : i = ps.length := by omega
    have hq : rightS (trms ps) = decide ((ps.length : Int) ≤ 8) := by
      unfold rightS
      rw [show (trms ps).all termB = true from List.all_eq_true.2 fun t ht => by
        obtain ⟨p, hp, rfl⟩ := List.mem_map.1 ht
        obtain ⟨j, hj⟩ := List.getElem?_of_mem hp
        exact hall j p (List.getElem?_eq_some_iff.1 hj).1 hj, List.length_map, Bool.true_and, Bool.eq_iff_iff, decide_eq_true_eq, decide_eq_true_eq]
      omega
    rw [hq]
    repeat' (first | refine aw_seq ?_ | refine zz ?_ | refine zon fun _ => ?_ | refine zoa fun vr lr hr => ?_ | refine zoS (fun _ => ?_) (fun _ => ?_) | refine zqS (fun _ => ?_) (fun _ => ?_) | refine zwS (fun _ => ?_) (fun _ => ?_))
    exact fun w' hw => ⟨rfl, hw.below⟩
end Scp
end Go.Proofs.YtlokhemlpmalaaaDoor
