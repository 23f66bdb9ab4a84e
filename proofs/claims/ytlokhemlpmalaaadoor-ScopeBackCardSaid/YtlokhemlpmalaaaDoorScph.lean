/- Contracts of the document's answer for layer 6: Holds, Match; conditions: values of at most 100,000 bytes, lists of at most 100,000. -/
import Derived.Test.YtlokhemlpmalaaaDoorScpt
namespace Go.Proofs.YtlokhemlpmalaaaDoor
namespace Scp
open Go Go.RowKit Sx Lab
attribute [local irreducible] Go.Calls

abbrev OC (k s n : Nm) (ver : Int) (c : Nm) (tm bs : Bool) (v : Value) : Value := .agg #[S k, S s, S n, I ver, S c, .bool tm, .bool bs, v]
theorem mem_snoc {vs : List Nm} {i : Nat} {v c : Nm} (he : vs[i]? = some v) : decide (c ∈ vs.take (i + 1)) = (decide (c ∈ vs.take i) || v == c) := by
  rw [List.take_add_one, he, Bool.eq_iff_iff]
  simp
  constructor
  · rintro (h | rfl)
    · exact .inl h
    · exact .inr rfl
  · rintro (h | rfl)
    · exact .inl h
    · exact .inr rfl

set_option maxHeartbeats 16000000 in
theorem rholds_ok (op : Int) (u : Value) (vs : List Nm) (k s n : Nm) (ver : Int) (c : Nm) (tm bs : Bool) (ov : Value) (hwf : wfN vs) (w : World) (hv : TxtAt w u vs) :
    Calls Tryd.prog 12 #[.agg #[I op, u], OC k s n ver c tm bs ov] w fun e w' => e = .returned (.bool (holdsB (op, vs) c tm bs)) ∧ Below w.heap.size w w' := by
  have hln := hwf.1
  have ht := fun w' (hb : Below w.heap.size w w') => term_ok op u vs hwf w' (hv.below hb)
  obtain ⟨a, cp, rfl, hat⟩ := OldRow.cells cellsS_len hv
  refine calls1 (args := [.agg #[I op, .slice a vs.length cp], OC k s n ver c tm bs ov]) Tryd.func12 rfl rfl rfl rfl ?_
  cases hr : termB (op, vs)
  · rw [show holdsB (op, vs) c tm bs = false by unfold holdsB; rw [hr]; rfl]
    rw [hr] at ht
    repeat' (first | refine aw_seq ?_ | refine zz ?_ | refine zon fun _ => ?_ | refine zoa fun vr lr hr => ?_ | ((first | apply ao_call | apply aq_call); exact wants_a; (first | exact oc_func rfl | exact oc_clos rfl rfl); (exact rfl); (first | exact fun w hw => ht w hw.below)) | refine zoS (fun _ => ?_) (fun _ => ?_) | refine zqS (fun _ => ?_) (fun _ => ?_) | refine zwS (fun _ => ?_) (fun _ => ?_))
    exact fun w' hw => ⟨rfl, hw.below⟩
  rw [show holdsB (op, vs) c tm bs = asksB op vs c tm bs by unfold holdsB; rw [hr]; rfl]
  rw [hr] at ht
  have hop : 0 ≤ op ∧ op ≤ 7 := by
    unfold termB at hr
    simp only [Bool.and_eq_true, decide_eq_true_eq] at hr
    exact hr.1
  repeat' (first | refine aw_seq ?_ | refine zz ?_ | refine zon fun _ => ?_ | refine zoa fun vr lr hr => ?_ | ((first | apply ao_call | apply aq_call); exact wants_a; (first | exact oc_func rfl | exact oc_clos rfl rfl); (exact rfl); (first | exact fun w hw => ht w hw.below)) | refine zoS (fun _ => ?_) (fun _ => ?_) | refine zqS (fun _ => ?_) (fun _ => ?_) | refine zwS (fun _ => ?_) (fun _ => ?_))
  refine aw_for (t0 := [(2, .pointer (some ⟨_, 0, none⟩)), (3, .pointer (some ⟨_, 0, none⟩)), (6, .bool false), (7, I (0 : Nat))]) (fun q t H => ∃ (g2 g3 i : Nat) (b : Bool), q = vs.length - i ∧ i ≤ vs.length ∧ b = decide (c ∈ vs.take i) ∧ t = [(2, .pointer (some ⟨g2, 0, none⟩)), (3, .pointer (some ⟨g3, 0, none⟩)), (6, .bool b), (7, I i)] ∧ H = [(g3, .cells #[S k, S s, S n, I ver, S c, .bool tm, .bool bs, ov] 33), (g2, .cells #[I op, .slice a vs.length cp] 28)]) ⟨_, _, 0, false, rfl, by omega, by simp, rfl, rfl⟩ (by repeat (first | exact sub_nil | refine sub_cons rfl ?_)) ?_
  rintro q t H ⟨g2, g3, i, b, rfl, hi, hb, rfl, rfl⟩
  by_cases hlt : i < vs.length
  · obtain ⟨v, he⟩ := getI hlt
    obtain ⟨g, o, rfl, hg, hc⟩ := hat i v (i : Int) he rfl
    have c0 : w.cell? ⟨g, o + (i : Int).toNat * 1, none⟩ = some (S v) := hc 0 _ rfl
    have hsn := mem_snoc (c := c) he
    rw [← hb] at hsn
    clear hb
    cases b
    · repeat' (first | refine aw_seq ?_ | refine zz ?_ | refine zon fun _ => ?_ | refine zoa fun vr lr hr => ?_ | refine zoS (fun _ => ?_) (fun _ => ?_) | refine zqS (fun _ => ?_) (fun _ => ?_) | refine zwS (fun _ => ?_) (fun _ => ?_))
      exact lq_normal' ⟨g2, g3, i + 1, v == c, rfl, by omega, by rw [hsn, Bool.false_or], rfl, rfl⟩ (by omega) (by repeat (first | exact sub_nil | refine sub_cons rfl ?_)) hsub_a
    · repeat' (first | refine aw_seq ?_ | refine zz ?_ | refine zon fun _ => ?_ | refine zoa fun vr lr hr => ?_ | refine zoS (fun _ => ?_) (fun _ => ?_) | refine zqS (fun _ => ?_) (fun _ => ?_) | refine zwS (fun _ => ?_) (fun _ => ?_))
      exact lq_normal' ⟨g2, g3, i + 1, true, rfl, by omega, by rw [hsn, Bool.true_or], rfl, rfl⟩ (by omega) (by repeat (first | exact sub_nil | refine sub_cons rfl ?_)) hsub_a
  · obtain rfl : i = vs.length := by omega
    rw [List.take_length] at hb
    obtain rfl | rfl | rfl | rfl | rfl | rfl | rfl | rfl : op = 0 ∨ op = 1 ∨ op = 2 ∨ op = 3 ∨ op = 4 ∨ op = 5 ∨ op = 6 ∨ op = 7 := by omega
    · rw [show asksB 0 vs c tm bs = b from hb.symm]
      repeat' (first | refine aw_seq ?_ | refine zz ?_ | refine zon fun _ => ?_ | refine zoa fun vr lr hr => ?_ | refine zoS (fun _ => ?_) (fun _ => ?_) | refine zqS (fun _ => ?_) (fun _ => ?_) | refine zwS (fun _ => ?_) (fun _ => ?_))
      exact fun w' hw => ⟨rfl, hw.below⟩
    · rw [show asksB 1 vs c tm bs = !b by rw [hb]; rfl]
      repeat' (first | refine aw_seq ?_ | refine zz ?_ | refine zon fun _ => ?_ | refine zoa fun vr lr hr => ?_ | refine zoS (fun _ => ?_) (fun _ => ?_) | refine zqS (fun _ => ?_) (fun _ => ?_) | refine zwS (fun _ => ?_) (fun _ => ?_))
      exact fun w' hw => ⟨rfl, hw.below⟩
    · rw [show asksB 2 vs c tm bs = (c != []) from rfl]
      repeat' (first | refine aw_seq ?_ | refine zz ?_ | refine zon fun _ => ?_ | refine zoa fun vr lr hr => ?_ | refine zoS (fun _ => ?_) (fun _ => ?_) | refine zqS (fun _ => ?_) (fun _ => ?_) | refine zwS (fun _ => ?_) (fun _ => ?_))
      exact fun w' hw => ⟨rfl, hw.below⟩
    · rw [show asksB 3 vs c tm bs = (c == []) from rfl]
      repeat' (first | refine aw_seq ?_ | refine zz ?_ | refine zon fun _ => ?_ | refine zoa fun vr lr hr => ?_ | refine zoS (fun _ => ?_) (fun _ => ?_) | refine zqS (fun _ => ?_) (fun _ => ?_) | refine zwS (fun _ => ?_) (fun _ => ?_))
      exact fun w' hw => ⟨rfl, hw.below⟩
    · rw [show asksB 4 vs c tm bs = tm from rfl]
      repeat' (first | refine aw_seq ?_ | refine zz ?_ | refine zon fun _ => ?_ | refine zoa fun vr lr hr => ?_ | refine zoS (fun _ => ?_) (fun _ => ?_) | refine zqS (fun _ => ?_) (fun _ => ?_) | refine zwS (fun _ => ?_) (fun _ => ?_))
      exact fun w' hw => ⟨rfl, hw.below⟩
    · rw [show asksB 5 vs c tm bs = !tm from rfl]
      repeat' (first | refine aw_seq ?_ | refine zz ?_ | refine zon fun _ => ?_ | refine zoa fun vr lr hr => ?_ | refine zoS (fun _ => ?_) (fun _ => ?_) | refine zqS (fun _ => ?_) (fun _ => ?_) | refine zwS (fun _ => ?_) (fun _ => ?_))
      exact fun w' hw => ⟨rfl, hw.below⟩
    · rw [show asksB 6 vs c tm bs = bs from rfl]
      repeat' (first | refine aw_seq ?_ | refine zz ?_ | refine zon fun _ => ?_ | refine zoa fun vr lr hr => ?_ | refine zoS (fun _ => ?_) (fun _ => ?_) | refine zqS (fun _ => ?_) (fun _ => ?_) | refine zwS (fun _ => ?_) (fun _ => ?_))
      exact fun w' hw => ⟨rfl, hw.below⟩
    · rw [show asksB 7 vs c tm bs = !bs from rfl]
      repeat' (first | refine aw_seq ?_ | refine zz ?_ | refine zon fun _ => ?_ | refine zoa fun vr lr hr => ?_ | refine zoS (fun _ => ?_) (fun _ => ?_) | refine zqS (fun _ => ?_) (fun _ => ?_) | refine zwS (fun _ => ?_) (fun _ => ?_))
      exact fun w' hw => ⟨rfl, hw.below⟩

theorem match_f {ts : List Trm} {t : Trm} {c : Nm} {tm bs : Bool} (ht : t ∈ ts) (h : holdsB t c tm bs = false) : matchS ts c tm bs = false := by
  unfold matchS
  rw [show (ts.all fun t => holdsB t c tm bs) = false from List.all_eq_false.2 ⟨t, ht, by rw [h]; decide⟩]
  rfl

set_option maxHeartbeats 8000000 in
theorem rmatch_ok (v : Value) (ps : List (Value × Trm)) (k s n : Nm) (ver : Int) (c : Nm) (tm bs : Bool) (ov : Value) (hwf : wfP ps) (w : World) (hv : ScpAt w v ps) :
    Calls Tryd.prog 14 #[v, OC k s n ver c tm bs ov] w fun e w' => e = .returned (.bool (matchS (trms ps) c tm bs)) ∧ Below w.heap.size w w' := by
  have hln := hwf.1
  have hrg := fun w' (hb : Below w.heap.size w w') => rright_ok v ps hwf w' (hv.below hb)
  obtain ⟨a, cp, rfl, hat⟩ := OldRow.cells cellsT_len hv.1
  refine calls1 (args := [.slice a ps.length cp, OC k s n ver c tm bs ov]) Tryd.func14 rfl rfl rfl rfl ?_
  repeat' (first | refine aw_seq ?_ | refine zz ?_ | refine zon fun _ => ?_ | refine zoa fun vr lr hr => ?_ | refine zoS (fun _ => ?_) (fun _ => ?_) | refine zqS (fun _ => ?_) (fun _ => ?_) | refine zwS (fun _ => ?_) (fun _ => ?_))
  refine aw_for (t0 := [(0, .slice a ps.length cp), (3, .pointer (some ⟨_, 0, none⟩)), (5, I (0 : Nat))]) (fun q t H => ∃ g2 i : Nat, q = ps.length - i ∧ i ≤ ps.length ∧ (∀ (j : Nat) (p : Value × Trm), j < i → ps[j]? = some p → holdsB p.2 c tm bs = true) ∧ t = [(0, .slice a ps.length cp), (3, .pointer (some ⟨g2, 0, none⟩)), (5, I i)] ∧ H = [(g2, .cells #[S k, S s, S n, I ver, S c, .bool tm, .bool bs, ov] 33)]) ⟨_, 0, rfl, by omega, fun j p hj => by omega, rfl, rfl⟩ (by repeat (first | exact sub_nil | refine sub_cons rfl ?_)) ?_
  rintro q t H ⟨g2, i, rfl, hi, hall, rfl, rfl⟩
  by_cases hlt : i < ps.length
  · obtain ⟨⟨u, op, vs⟩, he⟩ := getI hlt
    obtain ⟨g, o, rfl, hg, hc⟩ := hat i _ (i : Int) he rfl
    have cA : ∀ (j : Nat) x, [I op, u][j]? = some x → w.cell? ⟨g, o + (i : Int).toNat * 2 + j, none⟩ = some x := hc
    have hm := List.mem_of_getElem? he
    have ht := fun w' (hb : Below w.heap.size w w') => rholds_ok op u vs k s n ver c tm bs ov (hwf.2 _ hm) w' ((hv.2 _ hm).below hb)
    cases hr : holdsB (op, vs) c tm bs
    · rw [match_f (term_mem he) hr]
      rw [hr] at ht
      repeat' (first | refine aw_seq ?_ | ((first | apply ao_val | apply aq_val); exact wants_a; (first | exact ov_load_oa rfl hg cA rfl | exact ov_a); (exact rfl)) | refine zy ?_ | refine zon fun _ => ?_ | refine zoa fun vr lr hr => ?_ | ((first | apply ao_call | apply aq_call); exact wants_a; (first | exact oc_func rfl | exact oc_clos rfl rfl); (exact rfl); (first | exact fun w hw => ht w hw.below)) | refine zoS (fun _ => ?_) (fun _ => ?_) | refine zqS (fun _ => ?_) (fun _ => ?_) | refine zwS (fun _ => ?_) (fun _ => ?_))
      exact fun w' hw => ⟨rfl, hw.below⟩
    · rw [hr] at ht
      repeat' (first | refine aw_seq ?_ | ((first | apply ao_val | apply aq_val); exact wants_a; (first | exact ov_load_oa rfl hg cA rfl | exact ov_a); (exact rfl)) | refine zy ?_ | refine zon fun _ => ?_ | refine zoa fun vr lr hr => ?_ | ((first | apply ao_call | apply aq_call); exact wants_a; (first | exact oc_func rfl | exact oc_clos rfl rfl); (exact rfl); (first | exact fun w hw => ht w hw.below)) | refine zoS (fun _ => ?_) (fun _ => ?_) | refine zqS (fun _ => ?_) (fun _ => ?_) | refine zwS (fun _ => ?_) (fun _ => ?_))
      exact lq_normal' ⟨g2, i + 1, rfl, by omega, fun j x hj hx => by
        by_cases e1 : j = i
        · subst e1; rw [he] at hx; cases hx; exact hr
        · exact hall j x (by omega) hx, rfl, rfl⟩ (by omega) (by repeat (first | exact sub_nil | refine sub_cons rfl ?_)) hsub_a
  · obtain rfl : i = ps.length := by omega
    have hq : matchS (trms ps) c tm bs = rightS (trms ps) := by
      unfold matchS
      rw [show ((trms ps).all fun t => holdsB t c tm bs) = true from List.all_eq_true.2 fun t ht => by
        obtain ⟨p, hp, rfl⟩ := List.mem_map.1 ht
        obtain ⟨j, hj⟩ := List.getElem?_of_mem hp
        exact hall j p (List.getElem?_eq_some_iff.1 hj).1 hj, Bool.true_and]
    rw [hq]
    repeat' (first | refine aw_seq ?_ | refine zz ?_ | refine zon fun _ => ?_ | refine zoa fun vr lr hr => ?_ | ((first | apply ao_call | apply aq_call); exact wants_a; (first | exact oc_func rfl | exact oc_clos rfl rfl); (exact rfl); (first | exact fun w hw => hrg w hw.below)) | refine zoS (fun _ => ?_) (fun _ => ?_) | refine zqS (fun _ => ?_) (fun _ => ?_) | refine zwS (fun _ => ?_) (fun _ => ?_))
    exact fun w' hw => ⟨rfl, hw.below⟩
end Scp
end Go.Proofs.YtlokhemlpmalaaaDoor
