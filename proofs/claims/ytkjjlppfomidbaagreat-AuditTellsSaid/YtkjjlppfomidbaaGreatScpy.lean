/- Scopes: what they are, which may be, their texts; conditions: none. -/
import Derived.Test.YtkjjlppfomidbaaGreatSxk
import Derived.Test.YtkjjlppfomidbaaGreatLabs
import Derived.Test.YtkjjlppfomidbaaGreatBord
/- Scpm: Scopes: what they are, which may be, their texts; conditions: none. -/
namespace Go.Proofs.YtkjjlppfomidbaaGreat
namespace Scp
open Go Go.RowKit Sx Lab
abbrev Nm := List UInt8
abbrev Trm := Int × List Nm
def valAt (vs : List Nm) (i : Nat) : Bool :=
  match vs[i]? with
  | none => true
  | some v => rightB v && (match i with
    | 0 => true
    | j + 1 => match vs[j]? with
      | none => true
      | some p => Op.bytesLess p v)
def valsB (vs : List Nm) : Bool := (List.range vs.length).all (valAt vs) && decide (1 ≤ vs.length ∧ vs.length ≤ 8)
def termB (t : Trm) : Bool := decide (0 ≤ t.1 ∧ t.1 ≤ 7) && (if 1 < t.1 then t.2.length == 0 else valsB t.2)
def rightS (ts : List Trm) : Bool := ts.all termB && decide (ts.length ≤ 8)
def asksB (op : Int) (vs : List Nm) (c : Nm) (tm bs : Bool) : Bool :=
  if op = 0 then decide (c ∈ vs) else if op = 1 then !decide (c ∈ vs) else if op = 2 then c != [] else if op = 3 then c == [] else if op = 4 then tm else if op = 5 then !tm else if op = 6 then bs else !bs
def holdsB (t : Trm) (c : Nm) (tm bs : Bool) : Bool := termB t && asksB t.1 t.2 c tm bs
def matchS (ts : List Trm) (c : Nm) (tm bs : Bool) : Bool := ts.all (fun t => holdsB t c tm bs) && rightS ts
theorem vals_f {vs : List Nm} {i : Nat} (hi : i < vs.length) (h : valAt vs i = false) : valsB vs = false := by
  unfold valsB
  rw [show (List.range vs.length).all (valAt vs) = false from List.all_eq_false.2 ⟨i, List.mem_range.2 hi, by rw [h]; decide⟩]
  rfl
theorem vals_t {vs : List Nm} (h : ∀ j, j < vs.length → valAt vs j = true) : valsB vs = decide (1 ≤ vs.length ∧ vs.length ≤ 8) := by
  unfold valsB
  rw [show (List.range vs.length).all (valAt vs) = true from List.all_eq_true.2 fun j hj => h j (List.mem_range.1 hj)]
  rfl
end Scp
end Go.Proofs.YtkjjlppfomidbaaGreat
/- Scpt: Contracts of the document's answer for layer 6: an op's name, a term, a scope that may be; conditions: values of at most 100,000 bytes, lists of at most 100,000. -/
namespace Go.Proofs.YtkjjlppfomidbaaGreat
namespace Scp
open Go Go.RowKit Sx Lab
attribute [local irreducible] Go.Calls
theorem getI {α : Type} {l : List α} {i : Nat} (h : i < l.length) : ∃ a, l[i]? = some a := ⟨_, List.getElem?_eq_getElem h⟩
def cellsS (s : Nm) : List Value := [S s]
theorem cellsS_len (s : Nm) : (cellsS s).length = 1 := rfl
def TxtAt (w : World) (v : Value) (vs : List Nm) : Prop := OldRow w 1 v vs.length (vs.flatMap cellsS)
theorem TxtAt.below {w w' : World} {v : Value} {vs : List Nm} (h : TxtAt w v vs) (hb : Below w.heap.size w w') : TxtAt w' v vs := OldRow.below h hb
def wfN (vs : List Nm) : Prop := vs.length ≤ 100000 ∧ ∀ v ∈ vs, v.length ≤ 100000
def cellsT (p : Value × Trm) : List Value := [I p.2.1, p.1]
theorem cellsT_len (p : Value × Trm) : (cellsT p).length = 2 := rfl
def ScpAt (w : World) (v : Value) (ps : List (Value × Trm)) : Prop := OldRow w 2 v ps.length (ps.flatMap cellsT) ∧ ∀ p ∈ ps, TxtAt w p.1 p.2.2
theorem ScpAt.below {w w' : World} {v : Value} {ps : List (Value × Trm)} (h : ScpAt w v ps) (hb : Below w.heap.size w w') : ScpAt w' v ps := ⟨OldRow.below h.1 hb, fun p hp => (h.2 p hp).below hb⟩
abbrev trms (ps : List (Value × Trm)) : List Trm := ps.map (·.2)
def wfP (ps : List (Value × Trm)) : Prop := ps.length ≤ 100000 ∧ ∀ p ∈ ps, wfN p.2.2
set_option maxHeartbeats 16000000 in
theorem term_ok (op : Int) (u : Value) (vs : List Nm) (hwf : wfN vs) (w : World) (hv : TxtAt w u vs) : Calls Tryz.prog 74 #[.agg #[I op, u]] w fun e w' => e = .returned (.bool (termB (op, vs))) ∧ Below w.heap.size w w' := by
  have hln := hwf.1
  obtain ⟨a, cp, rfl, hat⟩ := OldRow.cells cellsS_len hv
  refine calls1 (args := [.agg #[I op, .slice a vs.length cp]]) Tryz.func74 rfl rfl rfl rfl ?_
  by_cases h0 : op < 0
  · rw [show termB (op, vs) = false by unfold termB; rw [decide_eq_false (by simp only; omega)]; rfl]
    repeat' (first | refine aw_seq ?_ | refine zz ?_ | refine zon fun _ => ?_ | refine zoa fun vr lr hr => ?_ | refine zoS (fun _ => ?_) (fun _ => ?_) | refine zqS (fun _ => ?_) (fun _ => ?_) | refine zwS (fun _ => ?_) (fun _ => ?_))
    exact fun w' hw => ⟨rfl, hw.below⟩
  by_cases h7 : 7 < op
  · rw [show termB (op, vs) = false by unfold termB; rw [decide_eq_false (by simp only; omega)]; rfl]
    repeat' (first | refine aw_seq ?_ | refine zz ?_ | refine zon fun _ => ?_ | refine zoa fun vr lr hr => ?_ | refine zoS (fun _ => ?_) (fun _ => ?_) | refine zqS (fun _ => ?_) (fun _ => ?_) | refine zwS (fun _ => ?_) (fun _ => ?_))
    exact fun w' hw => ⟨rfl, hw.below⟩
  by_cases h1 : 1 < op
  · rw [show termB (op, vs) = ((vs.length : Int) == 0) by
      unfold termB
      rw [decide_eq_true (by simp only; omega), if_pos h1, Bool.eq_iff_iff]
      simp]
    repeat' (first | refine aw_seq ?_ | refine zz ?_ | refine zon fun _ => ?_ | refine zoa fun vr lr hr => ?_ | refine zoS (fun _ => ?_) (fun _ => ?_) | refine zqS (fun _ => ?_) (fun _ => ?_) | refine zwS (fun _ => ?_) (fun _ => ?_))
    exact fun w' hw => ⟨rfl, hw.below⟩
  rw [show termB (op, vs) = valsB vs by unfold termB; rw [decide_eq_true (by simp only; omega), if_neg h1]; rfl]
  repeat' (first | refine aw_seq ?_ | refine zz ?_ | refine zon fun _ => ?_ | refine zoa fun vr lr hr => ?_ | refine zoS (fun _ => ?_) (fun _ => ?_) | refine zqS (fun _ => ?_) (fun _ => ?_) | refine zwS (fun _ => ?_) (fun _ => ?_))
  refine aw_for (t0 := [(1, .pointer (some ⟨_, 0, none⟩)), (3, I (0 : Nat))]) (fun q t H => ∃ gb i : Nat, q = vs.length - i ∧ i ≤ vs.length ∧ (∀ j, j < i → valAt vs j = true) ∧ t = [(1, .pointer (some ⟨gb, 0, none⟩)), (3, I i)] ∧ H = [(gb, .cells #[I op, .slice a vs.length cp] 130)]) ⟨_, 0, rfl, by omega, fun j hj => by omega, rfl, rfl⟩ (by repeat (first | exact sub_nil | refine sub_cons rfl ?_)) ?_
  rintro q t H ⟨gb, i, rfl, hi, hall, rfl, rfl⟩
  by_cases hlt : i < vs.length
  · obtain ⟨v, he⟩ := getI hlt
    obtain ⟨g, o, rfl, hg, hc⟩ := hat i v (i : Int) he rfl
    have c0 : w.cell? ⟨g, o + (i : Int).toNat * 1, none⟩ = some (S v) := hc 0 _ rfl
    have hvl := hwf.2 v (List.mem_of_getElem? he)
    have hrr := fun w => Lab.rright_ok v (by omega) w
    cases hr : rightB v
    · rw [vals_f hlt (by unfold valAt; rw [he]; simp [hr])]
      rw [hr] at hrr
      repeat' (first | refine aw_seq ?_ | refine zz ?_ | refine zon fun _ => ?_ | refine zoa fun vr lr hr => ?_ | ((first | apply ao_call | apply aq_call); exact wants_a; (first | exact oc_func rfl | exact oc_clos rfl rfl | exact oc_bnd rfl rfl); (exact rfl); (first | exact fun w hw => hrr w)) | refine zoS (fun _ => ?_) (fun _ => ?_) | refine zqS (fun _ => ?_) (fun _ => ?_) | refine zwS (fun _ => ?_) (fun _ => ?_))
      exact fun w' hw => ⟨rfl, hw.below⟩
    rw [hr] at hrr
    cases i with
    | zero =>
      have hok : valAt vs 0 = true := by unfold valAt; rw [he]; simp [hr]
      repeat' (first | refine aw_seq ?_ | refine zz ?_ | refine zon fun _ => ?_ | refine zoa fun vr lr hr => ?_ | ((first | apply ao_call | apply aq_call); exact wants_a; (first | exact oc_func rfl | exact oc_clos rfl rfl | exact oc_bnd rfl rfl); (exact rfl); (first | exact fun w hw => hrr w)) | refine zoS (fun _ => ?_) (fun _ => ?_) | refine zqS (fun _ => ?_) (fun _ => ?_) | refine zwS (fun _ => ?_) (fun _ => ?_))
      exact lq_normal' ⟨gb, 1, rfl, by omega, fun j hj => (show 0 = j by omega) ▸ hok, rfl, rfl⟩ (by omega) (by repeat (first | exact sub_nil | refine sub_cons rfl ?_)) hsub_a
    | succ i =>
      obtain ⟨p, hp⟩ := getI (show i < vs.length by omega)
      obtain ⟨g', o', e1, -, hd⟩ := hat i p (((i + 1 : Nat) : Int) - 1) hp (by omega)
      cases e1
      have d0 : w.cell? ⟨g, o + (((i + 1 : Nat) : Int) - 1).toNat * 1, none⟩ = some (S p) := hd 0 _ rfl
      have hpl := hwf.2 p (List.mem_of_getElem? hp)
      have hbf := fun w => Lab.before_ok p v hpl hvl w
      cases hl : Op.bytesLess p v
      · rw [vals_f hlt (by unfold valAt; rw [he]; simp [hp, hl])]
        rw [hl] at hbf
        repeat' (first | refine aw_seq ?_ | refine zz ?_ | refine zon fun _ => ?_ | refine zoa fun vr lr hr => ?_ | ((first | apply ao_call | apply aq_call); exact wants_a; (first | exact oc_func rfl | exact oc_clos rfl rfl | exact oc_bnd rfl rfl); (exact rfl); (first | exact fun w hw => hrr w | exact fun w hw => hbf w)) | refine zoS (fun _ => ?_) (fun _ => ?_) | refine zqS (fun _ => ?_) (fun _ => ?_) | refine zwS (fun _ => ?_) (fun _ => ?_))
        exact fun w' hw => ⟨rfl, hw.below⟩
      · have hok : valAt vs (i + 1) = true := by unfold valAt; rw [he]; simp [hr, hp, hl]
        rw [hl] at hbf
        repeat' (first | refine aw_seq ?_ | refine zz ?_ | refine zon fun _ => ?_ | refine zoa fun vr lr hr => ?_ | ((first | apply ao_call | apply aq_call); exact wants_a; (first | exact oc_func rfl | exact oc_clos rfl rfl | exact oc_bnd rfl rfl); (exact rfl); (first | exact fun w hw => hrr w | exact fun w hw => hbf w)) | refine zoS (fun _ => ?_) (fun _ => ?_) | refine zqS (fun _ => ?_) (fun _ => ?_) | refine zwS (fun _ => ?_) (fun _ => ?_))
        exact lq_normal' ⟨gb, i + 2, rfl, by omega, fun j hj => by
          by_cases e1 : j = i + 1
          · subst e1; exact hok
          · exact hall j (by omega), rfl, rfl⟩ (by omega) (by repeat (first | exact sub_nil | refine sub_cons rfl ?_)) hsub_a
  · obtain rfl : i = vs.length := by omega
    rw [vals_t hall]
    by_cases h1 : 1 ≤ vs.length
    · rw [show decide (1 ≤ vs.length ∧ vs.length ≤ 8) = decide ((vs.length : Int) ≤ 8) by rw [Bool.eq_iff_iff]; simp; omega]
      repeat' (first | refine aw_seq ?_ | refine zz ?_ | refine zon fun _ => ?_ | refine zoa fun vr lr hr => ?_ | refine zoS (fun _ => ?_) (fun _ => ?_) | refine zqS (fun _ => ?_) (fun _ => ?_) | refine zwS (fun _ => ?_) (fun _ => ?_))
      exact fun w' hw => ⟨rfl, hw.below⟩
    · rw [decide_eq_false fun h => h1 h.1]
      repeat' (first | refine aw_seq ?_ | refine zz ?_ | refine zon fun _ => ?_ | refine zoa fun vr lr hr => ?_ | refine zoS (fun _ => ?_) (fun _ => ?_) | refine zqS (fun _ => ?_) (fun _ => ?_) | refine zwS (fun _ => ?_) (fun _ => ?_))
      exact fun w' hw => ⟨rfl, hw.below⟩
theorem right_f {ts : List Trm} {t : Trm} (ht : t ∈ ts) (h : termB t = false) : rightS ts = false := by
  unfold rightS
  rw [show ts.all termB = false from List.all_eq_false.2 ⟨t, ht, by rw [h]; decide⟩]
  rfl
theorem term_mem {ps : List (Value × Trm)} {i : Nat} {p : Value × Trm} (h : ps[i]? = some p) : p.2 ∈ trms ps := List.mem_map_of_mem (List.mem_of_getElem? h)
set_option maxHeartbeats 8000000 in
theorem rright_ok (v : Value) (ps : List (Value × Trm)) (hwf : wfP ps) (w : World) (hv : ScpAt w v ps) : Calls Tryz.prog 39 #[v] w fun e w' => e = .returned (.bool (rightS (trms ps))) ∧ Below w.heap.size w w' := by
  have hln := hwf.1
  obtain ⟨a, cp, rfl, hat⟩ := OldRow.cells cellsT_len hv.1
  refine calls1 (args := [.slice a ps.length cp]) Tryz.func39 rfl rfl rfl rfl ?_
  repeat' (first | refine aw_seq ?_ | refine zz ?_ | refine zon fun _ => ?_ | refine zoa fun vr lr hr => ?_ | refine zoS (fun _ => ?_) (fun _ => ?_) | refine zqS (fun _ => ?_) (fun _ => ?_) | refine zwS (fun _ => ?_) (fun _ => ?_))
  refine aw_for (t0 := [(0, .slice a ps.length cp), (3, I (0 : Nat))]) (fun q t H => ∃ i : Nat, q = ps.length - i ∧ i ≤ ps.length ∧ (∀ (j : Nat) (p : Value × Trm), j < i → ps[j]? = some p → termB p.2 = true) ∧ t = [(0, .slice a ps.length cp), (3, I i)] ∧ H = []) ⟨0, rfl, by omega, fun j p hj => by omega, rfl, rfl⟩ (by repeat (first | exact sub_nil | refine sub_cons rfl ?_)) ?_
  rintro q t H ⟨i, rfl, hi, hall, rfl, rfl⟩
  by_cases hlt : i < ps.length
  · obtain ⟨⟨u, op, vs⟩, he⟩ := getI hlt
    obtain ⟨g, o, rfl, hg, hc⟩ := hat i _ (i : Int) he rfl
    have cA : ∀ (j : Nat) x, [I op, u][j]? = some x → w.cell? ⟨g, o + (i : Int).toNat * 2 + j, none⟩ = some x := hc
    have hm := List.mem_of_getElem? he
    have ht := fun w' (hb : Below w.heap.size w w') => term_ok op u vs (hwf.2 _ hm) w' ((hv.2 _ hm).below hb)
    cases hr : termB (op, vs)
    · rw [right_f (term_mem he) hr]
      rw [hr] at ht
      repeat' (first | refine aw_seq ?_ | ((first | apply ao_val | apply aq_val); exact wants_a; (first | exact ov_load_oa rfl hg cA rfl | exact ov_a); (exact rfl)) | refine zy ?_ | refine zon fun _ => ?_ | refine zoa fun vr lr hr => ?_ | ((first | apply ao_call | apply aq_call); exact wants_a; (first | exact oc_func rfl | exact oc_clos rfl rfl | exact oc_bnd rfl rfl); (exact rfl); (first | exact fun w hw => ht w hw.below)) | refine zoS (fun _ => ?_) (fun _ => ?_) | refine zqS (fun _ => ?_) (fun _ => ?_) | refine zwS (fun _ => ?_) (fun _ => ?_))
      exact fun w' hw => ⟨rfl, hw.below⟩
    · rw [hr] at ht
      repeat' (first | refine aw_seq ?_ | ((first | apply ao_val | apply aq_val); exact wants_a; (first | exact ov_load_oa rfl hg cA rfl | exact ov_a); (exact rfl)) | refine zy ?_ | refine zon fun _ => ?_ | refine zoa fun vr lr hr => ?_ | ((first | apply ao_call | apply aq_call); exact wants_a; (first | exact oc_func rfl | exact oc_clos rfl rfl | exact oc_bnd rfl rfl); (exact rfl); (first | exact fun w hw => ht w hw.below)) | refine zoS (fun _ => ?_) (fun _ => ?_) | refine zqS (fun _ => ?_) (fun _ => ?_) | refine zwS (fun _ => ?_) (fun _ => ?_))
      exact lq_normal ⟨i + 1, rfl, by omega, fun j x hj hx => by
        by_cases e1 : j = i
        · subst e1; rw [he] at hx; cases hx; exact hr
        · exact hall j x (by omega) hx, rfl, rfl⟩ (by omega) (by repeat (first | exact sub_nil | refine sub_cons rfl ?_))
  · obtain rfl : i = ps.length := by omega
    have hq : rightS (trms ps) = decide ((ps.length : Int) ≤ 8) := by
      unfold rightS
      rw [show (trms ps).all termB = true from List.all_eq_true.2 fun t ht => by
        obtain ⟨p, hp, rfl⟩ := List.mem_map.1 ht
        obtain ⟨j, hj⟩ := List.getElem?_of_mem hp
        exact hall j p (List.getElem?_eq_some_iff.1 hj).1 hj, List.length_map, Bool.true_and, Bool.eq_iff_iff, decide_eq_true_eq, decide_eq_true_eq]
      omega
    rw [hq]
    repeat' (first | refine aw_seq ?_ | refine zz ?_ | refine zon fun _ => ?_ | refine zoa fun vr lr hr => ?_ | refine zoS (fun _ => ?_) (fun _ => ?_) | refine zqS (fun _ => ?_) (fun _ => ?_) | refine zwS (fun _ => ?_) (fun _ => ?_))
    exact fun w' hw => ⟨rfl, hw.below⟩
end Scp
end Go.Proofs.YtkjjlppfomidbaaGreat
/- Scph: Contracts of the document's answer for layer 6: Holds, Match; conditions: values of at most 100,000 bytes, lists of at most 100,000. -/
namespace Go.Proofs.YtkjjlppfomidbaaGreat
namespace Scp
open Go Go.RowKit Sx Lab
attribute [local irreducible] Go.Calls
abbrev OC (k s n : Nm) (ver : Int) (c : Nm) (tm bs : Bool) (v : Value) : Value := .agg #[S k, S s, S n, I ver, S c, .bool tm, .bool bs, v]
theorem mem_snoc {vs : List Nm} {i : Nat} {v c : Nm} (he : vs[i]? = some v) : decide (c ∈ vs.take (i + 1)) = (decide (c ∈ vs.take i) || v == c) := by
  rw [List.take_add_one, he, Bool.eq_iff_iff]
  simp
  constructor
  · rintro (h | rfl)
    · exact .inl h
    · exact .inr rfl
  · rintro (h | rfl)
    · exact .inl h
    · exact .inr rfl
set_option maxHeartbeats 16000000 in
theorem rholds_ok (op : Int) (u : Value) (vs : List Nm) (k s n : Nm) (ver : Int) (c : Nm) (tm bs : Bool) (ov : Value) (hwf : wfN vs) (w : World) (hv : TxtAt w u vs) :
    Calls Tryz.prog 113 #[.agg #[I op, u], OC k s n ver c tm bs ov] w fun e w' => e = .returned (.bool (holdsB (op, vs) c tm bs)) ∧ Below w.heap.size w w' := by
  have hln := hwf.1
  have ht := fun w' (hb : Below w.heap.size w w') => term_ok op u vs hwf w' (hv.below hb)
  obtain ⟨a, cp, rfl, hat⟩ := OldRow.cells cellsS_len hv
  refine calls1 (args := [.agg #[I op, .slice a vs.length cp], OC k s n ver c tm bs ov]) Tryz.func113 rfl rfl rfl rfl ?_
  cases hr : termB (op, vs)
  · rw [show holdsB (op, vs) c tm bs = false by unfold holdsB; rw [hr]; rfl]
    rw [hr] at ht
    repeat' (first | refine aw_seq ?_ | refine zz ?_ | refine zon fun _ => ?_ | refine zoa fun vr lr hr => ?_ | ((first | apply ao_call | apply aq_call); exact wants_a; (first | exact oc_func rfl | exact oc_clos rfl rfl | exact oc_bnd rfl rfl); (exact rfl); (first | exact fun w hw => ht w hw.below)) | refine zoS (fun _ => ?_) (fun _ => ?_) | refine zqS (fun _ => ?_) (fun _ => ?_) | refine zwS (fun _ => ?_) (fun _ => ?_))
    exact fun w' hw => ⟨rfl, hw.below⟩
  rw [show holdsB (op, vs) c tm bs = asksB op vs c tm bs by unfold holdsB; rw [hr]; rfl]
  rw [hr] at ht
  have hop : 0 ≤ op ∧ op ≤ 7 := by
    unfold termB at hr
    simp only [Bool.and_eq_true, decide_eq_true_eq] at hr
    exact hr.1
  repeat' (first | refine aw_seq ?_ | refine zz ?_ | refine zon fun _ => ?_ | refine zoa fun vr lr hr => ?_ | ((first | apply ao_call | apply aq_call); exact wants_a; (first | exact oc_func rfl | exact oc_clos rfl rfl | exact oc_bnd rfl rfl); (exact rfl); (first | exact fun w hw => ht w hw.below)) | refine zoS (fun _ => ?_) (fun _ => ?_) | refine zqS (fun _ => ?_) (fun _ => ?_) | refine zwS (fun _ => ?_) (fun _ => ?_))
  refine aw_for (t0 := [(2, .pointer (some ⟨_, 0, none⟩)), (3, .pointer (some ⟨_, 0, none⟩)), (6, .bool false), (7, I (0 : Nat))]) (fun q t H => ∃ (g2 g3 i : Nat) (b : Bool), q = vs.length - i ∧ i ≤ vs.length ∧ b = decide (c ∈ vs.take i) ∧ t = [(2, .pointer (some ⟨g2, 0, none⟩)), (3, .pointer (some ⟨g3, 0, none⟩)), (6, .bool b), (7, I i)] ∧ H = [(g3, .cells #[S k, S s, S n, I ver, S c, .bool tm, .bool bs, ov] 45), (g2, .cells #[I op, .slice a vs.length cp] 130)]) ⟨_, _, 0, false, rfl, by omega, by simp, rfl, rfl⟩ (by repeat (first | exact sub_nil | refine sub_cons rfl ?_)) ?_
  rintro q t H ⟨g2, g3, i, b, rfl, hi, hb, rfl, rfl⟩
  by_cases hlt : i < vs.length
  · obtain ⟨v, he⟩ := getI hlt
    obtain ⟨g, o, rfl, hg, hc⟩ := hat i v (i : Int) he rfl
    have c0 : w.cell? ⟨g, o + (i : Int).toNat * 1, none⟩ = some (S v) := hc 0 _ rfl
    have hsn := mem_snoc (c := c) he
    rw [← hb] at hsn
    clear hb
    cases b
    · repeat' (first | refine aw_seq ?_ | refine zz ?_ | refine zon fun _ => ?_ | refine zoa fun vr lr hr => ?_ | refine zoS (fun _ => ?_) (fun _ => ?_) | refine zqS (fun _ => ?_) (fun _ => ?_) | refine zwS (fun _ => ?_) (fun _ => ?_))
      exact lq_normal' ⟨g2, g3, i + 1, v == c, rfl, by omega, by rw [hsn, Bool.false_or], rfl, rfl⟩ (by omega) (by repeat (first | exact sub_nil | refine sub_cons rfl ?_)) hsub_a
    · repeat' (first | refine aw_seq ?_ | refine zz ?_ | refine zon fun _ => ?_ | refine zoa fun vr lr hr => ?_ | refine zoS (fun _ => ?_) (fun _ => ?_) | refine zqS (fun _ => ?_) (fun _ => ?_) | refine zwS (fun _ => ?_) (fun _ => ?_))
      exact lq_normal' ⟨g2, g3, i + 1, true, rfl, by omega, by rw [hsn, Bool.true_or], rfl, rfl⟩ (by omega) (by repeat (first | exact sub_nil | refine sub_cons rfl ?_)) hsub_a
  · obtain rfl : i = vs.length := by omega
    rw [List.take_length] at hb
    obtain rfl | rfl | rfl | rfl | rfl | rfl | rfl | rfl : op = 0 ∨ op = 1 ∨ op = 2 ∨ op = 3 ∨ op = 4 ∨ op = 5 ∨ op = 6 ∨ op = 7 := by omega
    · rw [show asksB 0 vs c tm bs = b from hb.symm]
      repeat' (first | refine aw_seq ?_ | refine zz ?_ | refine zon fun _ => ?_ | refine zoa fun vr lr hr => ?_ | refine zoS (fun _ => ?_) (fun _ => ?_) | refine zqS (fun _ => ?_) (fun _ => ?_) | refine zwS (fun _ => ?_) (fun _ => ?_))
      exact fun w' hw => ⟨rfl, hw.below⟩
    · rw [show asksB 1 vs c tm bs = !b by rw [hb]; rfl]
      repeat' (first | refine aw_seq ?_ | refine zz ?_ | refine zon fun _ => ?_ | refine zoa fun vr lr hr => ?_ | refine zoS (fun _ => ?_) (fun _ => ?_) | refine zqS (fun _ => ?_) (fun _ => ?_) | refine zwS (fun _ => ?_) (fun _ => ?_))
      exact fun w' hw => ⟨rfl, hw.below⟩
    · rw [show asksB 2 vs c tm bs = (c != []) from rfl]
      repeat' (first | refine aw_seq ?_ | refine zz ?_ | refine zon fun _ => ?_ | refine zoa fun vr lr hr => ?_ | refine zoS (fun _ => ?_) (fun _ => ?_) | refine zqS (fun _ => ?_) (fun _ => ?_) | refine zwS (fun _ => ?_) (fun _ => ?_))
      exact fun w' hw => ⟨rfl, hw.below⟩
    · rw [show asksB 3 vs c tm bs = (c == []) from rfl]
      repeat' (first | refine aw_seq ?_ | refine zz ?_ | refine zon fun _ => ?_ | refine zoa fun vr lr hr => ?_ | refine zoS (fun _ => ?_) (fun _ => ?_) | refine zqS (fun _ => ?_) (fun _ => ?_) | refine zwS (fun _ => ?_) (fun _ => ?_))
      exact fun w' hw => ⟨rfl, hw.below⟩
    · rw [show asksB 4 vs c tm bs = tm from rfl]
      repeat' (first | refine aw_seq ?_ | refine zz ?_ | refine zon fun _ => ?_ | refine zoa fun vr lr hr => ?_ | refine zoS (fun _ => ?_) (fun _ => ?_) | refine zqS (fun _ => ?_) (fun _ => ?_) | refine zwS (fun _ => ?_) (fun _ => ?_))
      exact fun w' hw => ⟨rfl, hw.below⟩
    · rw [show asksB 5 vs c tm bs = !tm from rfl]
      repeat' (first | refine aw_seq ?_ | refine zz ?_ | refine zon fun _ => ?_ | refine zoa fun vr lr hr => ?_ | refine zoS (fun _ => ?_) (fun _ => ?_) | refine zqS (fun _ => ?_) (fun _ => ?_) | refine zwS (fun _ => ?_) (fun _ => ?_))
      exact fun w' hw => ⟨rfl, hw.below⟩
    · rw [show asksB 6 vs c tm bs = bs from rfl]
      repeat' (first | refine aw_seq ?_ | refine zz ?_ | refine zon fun _ => ?_ | refine zoa fun vr lr hr => ?_ | refine zoS (fun _ => ?_) (fun _ => ?_) | refine zqS (fun _ => ?_) (fun _ => ?_) | refine zwS (fun _ => ?_) (fun _ => ?_))
      exact fun w' hw => ⟨rfl, hw.below⟩
    · rw [show asksB 7 vs c tm bs = !bs from rfl]
      repeat' (first | refine aw_seq ?_ | refine zz ?_ | refine zon fun _ => ?_ | refine zoa fun vr lr hr => ?_ | refine zoS (fun _ => ?_) (fun _ => ?_) | refine zqS (fun _ => ?_) (fun _ => ?_) | refine zwS (fun _ => ?_) (fun _ => ?_))
      exact fun w' hw => ⟨rfl, hw.below⟩
theorem match_f {ts : List Trm} {t : Trm} {c : Nm} {tm bs : Bool} (ht : t ∈ ts) (h : holdsB t c tm bs = false) : matchS ts c tm bs = false := by
  unfold matchS
  rw [show (ts.all fun t => holdsB t c tm bs) = false from List.all_eq_false.2 ⟨t, ht, by rw [h]; decide⟩]
  rfl
set_option maxHeartbeats 8000000 in
theorem rmatch_ok (v : Value) (ps : List (Value × Trm)) (k s n : Nm) (ver : Int) (c : Nm) (tm bs : Bool) (ov : Value) (hwf : wfP ps) (w : World) (hv : ScpAt w v ps) :
    Calls Tryz.prog 71 #[v, OC k s n ver c tm bs ov] w fun e w' => e = .returned (.bool (matchS (trms ps) c tm bs)) ∧ Below w.heap.size w w' := by
  have hln := hwf.1
  have hrg := fun w' (hb : Below w.heap.size w w') => rright_ok v ps hwf w' (hv.below hb)
  obtain ⟨a, cp, rfl, hat⟩ := OldRow.cells cellsT_len hv.1
  refine calls1 (args := [.slice a ps.length cp, OC k s n ver c tm bs ov]) Tryz.func71 rfl rfl rfl rfl ?_
  repeat' (first | refine aw_seq ?_ | refine zz ?_ | refine zon fun _ => ?_ | refine zoa fun vr lr hr => ?_ | refine zoS (fun _ => ?_) (fun _ => ?_) | refine zqS (fun _ => ?_) (fun _ => ?_) | refine zwS (fun _ => ?_) (fun _ => ?_))
  refine aw_for (t0 := [(0, .slice a ps.length cp), (3, .pointer (some ⟨_, 0, none⟩)), (5, I (0 : Nat))]) (fun q t H => ∃ g2 i : Nat, q = ps.length - i ∧ i ≤ ps.length ∧ (∀ (j : Nat) (p : Value × Trm), j < i → ps[j]? = some p → holdsB p.2 c tm bs = true) ∧ t = [(0, .slice a ps.length cp), (3, .pointer (some ⟨g2, 0, none⟩)), (5, I i)] ∧ H = [(g2, .cells #[S k, S s, S n, I ver, S c, .bool tm, .bool bs, ov] 45)]) ⟨_, 0, rfl, by omega, fun j p hj => by omega, rfl, rfl⟩ (by repeat (first | exact sub_nil | refine sub_cons rfl ?_)) ?_
  rintro q t H ⟨g2, i, rfl, hi, hall, rfl, rfl⟩
  by_cases hlt : i < ps.length
  · obtain ⟨⟨u, op, vs⟩, he⟩ := getI hlt
    obtain ⟨g, o, rfl, hg, hc⟩ := hat i _ (i : Int) he rfl
    have cA : ∀ (j : Nat) x, [I op, u][j]? = some x → w.cell? ⟨g, o + (i : Int).toNat * 2 + j, none⟩ = some x := hc
    have hm := List.mem_of_getElem? he
    have ht := fun w' (hb : Below w.heap.size w w') => rholds_ok op u vs k s n ver c tm bs ov (hwf.2 _ hm) w' ((hv.2 _ hm).below hb)
    cases hr : holdsB (op, vs) c tm bs
    · rw [match_f (term_mem he) hr]
      rw [hr] at ht
      repeat' (first | refine aw_seq ?_ | ((first | apply ao_val | apply aq_val); exact wants_a; (first | exact ov_load_oa rfl hg cA rfl | exact ov_a); (exact rfl)) | refine zy ?_ | refine zon fun _ => ?_ | refine zoa fun vr lr hr => ?_ | ((first | apply ao_call | apply aq_call); exact wants_a; (first | exact oc_func rfl | exact oc_clos rfl rfl | exact oc_bnd rfl rfl); (exact rfl); (first | exact fun w hw => ht w hw.below)) | refine zoS (fun _ => ?_) (fun _ => ?_) | refine zqS (fun _ => ?_) (fun _ => ?_) | refine zwS (fun _ => ?_) (fun _ => ?_))
      exact fun w' hw => ⟨rfl, hw.below⟩
    · rw [hr] at ht
      repeat' (first | refine aw_seq ?_ | ((first | apply ao_val | apply aq_val); exact wants_a; (first | exact ov_load_oa rfl hg cA rfl | exact ov_a); (exact rfl)) | refine zy ?_ | refine zon fun _ => ?_ | refine zoa fun vr lr hr => ?_ | ((first | apply ao_call | apply aq_call); exact wants_a; (first | exact oc_func rfl | exact oc_clos rfl rfl | exact oc_bnd rfl rfl); (exact rfl); (first | exact fun w hw => ht w hw.below)) | refine zoS (fun _ => ?_) (fun _ => ?_) | refine zqS (fun _ => ?_) (fun _ => ?_) | refine zwS (fun _ => ?_) (fun _ => ?_))
      exact lq_normal' ⟨g2, i + 1, rfl, by omega, fun j x hj hx => by
        by_cases e1 : j = i
        · subst e1; rw [he] at hx; cases hx; exact hr
        · exact hall j x (by omega) hx, rfl, rfl⟩ (by omega) (by repeat (first | exact sub_nil | refine sub_cons rfl ?_)) hsub_a
  · obtain rfl : i = ps.length := by omega
    have hq : matchS (trms ps) c tm bs = rightS (trms ps) := by
      unfold matchS
      rw [show ((trms ps).all fun t => holdsB t c tm bs) = true from List.all_eq_true.2 fun t ht => by
        obtain ⟨p, hp, rfl⟩ := List.mem_map.1 ht
        obtain ⟨j, hj⟩ := List.getElem?_of_mem hp
        exact hall j p (List.getElem?_eq_some_iff.1 hj).1 hj, Bool.true_and]
    rw [hq]
    repeat' (first | refine aw_seq ?_ | refine zz ?_ | refine zon fun _ => ?_ | refine zoa fun vr lr hr => ?_ | ((first | apply ao_call | apply aq_call); exact wants_a; (first | exact oc_func rfl | exact oc_clos rfl rfl | exact oc_bnd rfl rfl); (exact rfl); (first | exact fun w hw => hrg w hw.below)) | refine zoS (fun _ => ?_) (fun _ => ?_) | refine zqS (fun _ => ?_) (fun _ => ?_) | refine zwS (fun _ => ?_) (fun _ => ?_))
    exact fun w' hw => ⟨rfl, hw.below⟩
end Scp
end Go.Proofs.YtkjjlppfomidbaaGreat
/- Scpf: What is gone through of layer 6; conditions: none. -/
namespace Go.Proofs.YtkjjlppfomidbaaGreat
namespace Scp
open Go Go.RowKit Sx Lab
attribute [local irreducible] Go.Calls
def fitT (t : Trm) : Bool := decide (t.2.length ≤ 20) && t.2.all fun v => decide (v.length ≤ 600)
def fitS (ts : List Trm) : Bool := decide (ts.length ≤ 20) && ts.all fitT
theorem fit_wf {ps : List (Value × Trm)} (h : fitS (trms ps) = true) : wfP ps ∧ ps.length ≤ 20 ∧ ∀ p ∈ ps, p.2.2.length ≤ 20 ∧ ∀ v ∈ p.2.2, v.length ≤ 600 := by
  unfold fitS at h
  rw [Bool.and_eq_true, decide_eq_true_eq, List.length_map, List.all_eq_true] at h
  have key : ∀ p ∈ ps, p.2.2.length ≤ 20 ∧ ∀ v ∈ p.2.2, v.length ≤ 600 := fun p hp => by
    have := h.2 p.2 (List.mem_map_of_mem hp)
    unfold fitT at this
    rw [Bool.and_eq_true, decide_eq_true_eq, List.all_eq_true] at this
    exact ⟨this.1, fun v hv => of_decide_eq_true (this.2 v hv)⟩
  exact ⟨⟨by omega, fun p hp => ⟨by have := (key p hp).1; omega, fun v hv => by have := (key p hp).2 v hv; omega⟩⟩, h.1, key⟩
theorem fit_f {ts : List Trm} {t : Trm} (ht : t ∈ ts) (h : fitT t = false) : fitS ts = false := by
  unfold fitS
  rw [show ts.all fitT = false from List.all_eq_false.2 ⟨t, ht, by rw [h]; decide⟩]
  exact Bool.and_false _
set_option maxHeartbeats 16000000 in
theorem fits_ok (v : Value) (ps : List (Value × Trm)) (w : World) (hv : ScpAt w v ps) : Calls Tryz.prog 55 #[v] w fun e w' => e = .returned (.bool (fitS (trms ps))) ∧ Below w.heap.size w w' := by
  obtain ⟨a, cp, rfl, hat⟩ := OldRow.cells cellsT_len hv.1
  refine calls1 (args := [.slice a ps.length cp]) Tryz.func55 rfl rfl rfl rfl ?_
  by_cases hl : ps.length ≤ 20
  · repeat' (first | refine aw_seq ?_ | refine zz ?_ | refine zon fun _ => ?_ | refine zoa fun vr lr hr => ?_ | refine zoS (fun _ => ?_) (fun _ => ?_) | refine zqS (fun _ => ?_) (fun _ => ?_) | refine zwS (fun _ => ?_) (fun _ => ?_))
    refine aw_for (t0 := [(0, .slice a ps.length cp), (3, I (0 : Nat))]) (fun q t H => ∃ (i : Nat), q = ps.length - i ∧ i ≤ ps.length ∧ (∀ (j : Nat) (p : Value × Trm), j < i → ps[j]? = some p → fitT p.2 = true) ∧ t = [(0, .slice a ps.length cp), (3, I i)] ∧ H = []) ⟨0, rfl, by omega, fun j p hj => by omega, rfl, rfl⟩ (by repeat (first | exact sub_nil | refine sub_cons rfl ?_)) ?_
    rintro q t H ⟨i, rfl, hi, hall, rfl, rfl⟩
    by_cases hlt : i < ps.length
    · obtain ⟨⟨x, op, vs⟩, he⟩ := getI hlt
      obtain ⟨g, o, rfl, hg, hc⟩ := hat i _ (i : Int) he rfl
      have htx := hv.2 _ (List.mem_of_getElem? he)
      obtain ⟨b, cb, hx, hbt⟩ := OldRow.cells cellsS_len htx
      simp only at hx
      subst hx
      have c1 : w.cell? ⟨g, o + (i : Int).toNat * 2 + 1, none⟩ = some (.slice b vs.length cb) := hc 1 _ rfl
      have hm := term_mem he
      by_cases hv20 : vs.length ≤ 20
      · repeat' (first | refine aw_seq ?_ | refine zz ?_ | refine zon fun _ => ?_ | refine zoa fun vr lr hr => ?_ | refine zoS (fun _ => ?_) (fun _ => ?_) | refine zqS (fun _ => ?_) (fun _ => ?_) | refine zwS (fun _ => ?_) (fun _ => ?_))
        refine aw_for (t0 := [(0, .slice (some ⟨g, o, none⟩) ps.length cp), (3, I i), (4, I (0 : Nat))]) (fun q t H => ∃ (k : Nat), q = vs.length - k ∧ k ≤ vs.length ∧ (∀ (j : Nat) (v : Nm), j < k → vs[j]? = some v → v.length ≤ 600) ∧ t = [(0, .slice (some ⟨g, o, none⟩) ps.length cp), (3, I i), (4, I k)] ∧ H = []) ⟨0, rfl, by omega, fun j v hj => by omega, rfl, rfl⟩ (by repeat (first | exact sub_nil | refine sub_cons rfl ?_)) ?_
        rintro q t H ⟨k, rfl, hk, hall2, rfl, rfl⟩
        by_cases hkl : k < vs.length
        · obtain ⟨v, hv2⟩ := getI hkl
          obtain ⟨g2, o2, rfl, hg2, hc2⟩ := hbt k v (k : Int) hv2 rfl
          have d0 : w.cell? ⟨g2, o2 + (k : Int).toNat * 1, none⟩ = some (S v) := hc2 0 _ rfl
          by_cases h6 : v.length ≤ 600
          · repeat' (first | refine aw_seq ?_ | refine zz ?_ | refine zon fun _ => ?_ | refine zoa fun vr lr hr => ?_ | refine zoS (fun _ => ?_) (fun _ => ?_) | refine zqS (fun _ => ?_) (fun _ => ?_) | refine zwS (fun _ => ?_) (fun _ => ?_))
            exact lq_normal ⟨k + 1, rfl, by omega, fun j z hj hz => by
              by_cases e1 : j = k
              · subst e1; rw [hv2] at hz; cases hz; exact h6
              · exact hall2 j z (by omega) hz, rfl, rfl⟩ (by omega) (by repeat (first | exact sub_nil | refine sub_cons rfl ?_))
          · rw [fit_f hm (by
              unfold fitT
              rw [show (vs.all fun v => decide (v.length ≤ 600)) = false from List.all_eq_false.2 ⟨v, List.mem_of_getElem? hv2, by simpa using h6⟩]
              exact Bool.and_false _)]
            repeat' (first | refine aw_seq ?_ | refine zz ?_ | refine zon fun _ => ?_ | refine zoa fun vr lr hr => ?_ | refine zoS (fun _ => ?_) (fun _ => ?_) | refine zqS (fun _ => ?_) (fun _ => ?_) | refine zwS (fun _ => ?_) (fun _ => ?_))
            exact fun w' hw => ⟨rfl, hw.below⟩
        · obtain rfl : k = vs.length := by omega
          have hok : fitT (op, vs) = true := by
            unfold fitT
            rw [show (vs.all fun v => decide (v.length ≤ 600)) = true from List.all_eq_true.2 fun z hz => by
              obtain ⟨j, hj⟩ := List.getElem?_of_mem hz
              exact decide_eq_true (hall2 j z (List.getElem?_eq_some_iff.1 hj).1 hj), decide_eq_true hv20]
            rfl
          repeat' (first | refine aw_seq ?_ | refine zz ?_ | refine zon fun _ => ?_ | refine zoa fun vr lr hr => ?_ | refine zoS (fun _ => ?_) (fun _ => ?_) | refine zqS (fun _ => ?_) (fun _ => ?_) | refine zwS (fun _ => ?_) (fun _ => ?_))
          exact lq_normal ⟨i + 1, rfl, by omega, fun j z hj hz => by
            by_cases e1 : j = i
            · subst e1; rw [he] at hz; cases hz; exact hok
            · exact hall j z (by omega) hz, rfl, rfl⟩ (by omega) (by repeat (first | exact sub_nil | refine sub_cons rfl ?_))
      · rw [fit_f hm (by unfold fitT; rw [decide_eq_false hv20]; rfl)]
        repeat' (first | refine aw_seq ?_ | refine zz ?_ | refine zon fun _ => ?_ | refine zoa fun vr lr hr => ?_ | refine zoS (fun _ => ?_) (fun _ => ?_) | refine zqS (fun _ => ?_) (fun _ => ?_) | refine zwS (fun _ => ?_) (fun _ => ?_))
        exact fun w' hw => ⟨rfl, hw.below⟩
    · obtain rfl : i = ps.length := by omega
      have hq : fitS (trms ps) = true := by
        unfold fitS
        rw [show (trms ps).all fitT = true from List.all_eq_true.2 fun t ht => by
          obtain ⟨p, hp, rfl⟩ := List.mem_map.1 ht
          obtain ⟨j, hj⟩ := List.getElem?_of_mem hp
          exact hall j p (List.getElem?_eq_some_iff.1 hj).1 hj, List.length_map, decide_eq_true hl]
        rfl
      rw [hq]
      repeat' (first | refine aw_seq ?_ | refine zz ?_ | refine zon fun _ => ?_ | refine zoa fun vr lr hr => ?_ | refine zoS (fun _ => ?_) (fun _ => ?_) | refine zqS (fun _ => ?_) (fun _ => ?_) | refine zwS (fun _ => ?_) (fun _ => ?_))
      exact fun w' hw => ⟨rfl, hw.below⟩
  · rw [show fitS (trms ps) = false by unfold fitS; rw [List.length_map, decide_eq_false hl]; rfl]
    repeat' (first | refine aw_seq ?_ | refine zz ?_ | refine zon fun _ => ?_ | refine zoa fun vr lr hr => ?_ | refine zoS (fun _ => ?_) (fun _ => ?_) | refine zqS (fun _ => ?_) (fun _ => ?_) | refine zwS (fun _ => ?_) (fun _ => ?_))
    exact fun w' hw => ⟨rfl, hw.below⟩
end Scp
end Go.Proofs.YtkjjlppfomidbaaGreat
/- Scpx: Contracts of the document's answer for layer 6: Same, Text; conditions: values of at most 100,000 bytes, lists of at most 100,000. -/
namespace Go.Proofs.YtkjjlppfomidbaaGreat
namespace Scp
open Go Go.RowKit Sx Lab
end Scp
end Go.Proofs.YtkjjlppfomidbaaGreat
/- Scpy: Contracts of the landed code of layer 6: what may be, what holds, what matches; conditions: values of at most 100,000 bytes, lists of at most 100,000. -/
namespace Go.Proofs.YtkjjlppfomidbaaGreat
namespace Scp
open Go Go.RowKit Sx Lab
attribute [local irreducible] Go.Calls
theorem leq_ge (a b : Nm) : (Op.bytesLess b a || b == a) = !(Op.bytesLess a b) := by
  cases h1 : Op.bytesLess a b
  · cases h2 : Op.bytesLess b a
    · rw [Bord.bl_total a b h1 h2]; simp
    · rfl
  · rw [Bord.bl_asymm a b h1, beq_eq_false_iff_ne.2 (by rintro rfl; rw [Bord.bl_irrefl] at h1; cases h1)]
    rfl
def lastV (vs : List Nm) (i : Nat) : Nm := match i with
  | 0 => []
  | j + 1 => match vs[j]? with
    | none => []
    | some p => p
theorem last_snoc {vs : List Nm} {i : Nat} {v : Nm} (h : vs[i]? = some v) : lastV vs (i + 1) = v := by simp only [lastV, h]
theorem val_last {vs : List Nm} {i : Nat} {v : Nm} (h : vs[i]? = some v) (hr : rightB v = true) : valAt vs i = Op.bytesLess (lastV vs i) v := by
  cases i with
  | zero =>
    simp only [valAt, lastV, h, hr]
    cases v with
    | nil => simp [rightB] at hr
    | cons c r => rfl
  | succ j =>
    have hj := (List.getElem?_eq_some_iff.1 h).1
    obtain ⟨p, hp⟩ := getI (show j < vs.length by omega)
    simp only [valAt, lastV, h, hr, hp, Bool.true_and]
set_option maxHeartbeats 16000000 in
theorem values_ok (u : Value) (vs : List Nm) (hwf : wfN vs) (w : World) (hv : TxtAt w u vs) : Calls Tryz.prog 128 #[u] w fun e w' => e = .returned (.bool ((List.range vs.length).all (valAt vs) && decide (vs.length ≤ 8))) ∧ Below w.heap.size w w' := by
  have hln := hwf.1
  obtain ⟨a, cp, rfl, hat⟩ := OldRow.cells cellsS_len hv
  refine calls1 (args := [.slice a vs.length cp]) Tryz.func128 rfl rfl rfl rfl ?_
  by_cases h8 : 8 < vs.length
  · rw [show ((List.range vs.length).all (valAt vs) && decide (vs.length ≤ 8)) = false by rw [decide_eq_false (by omega), Bool.and_false]]
    repeat' (first | refine aw_seq ?_ | refine zz ?_ | refine zon fun _ => ?_ | refine zoa fun vr lr hr => ?_ | refine zoS (fun _ => ?_) (fun _ => ?_) | refine zqS (fun _ => ?_) (fun _ => ?_) | refine zwS (fun _ => ?_) (fun _ => ?_))
    exact fun w' hw => ⟨rfl, hw.below⟩
  rw [show ((List.range vs.length).all (valAt vs) && decide (vs.length ≤ 8)) = (List.range vs.length).all (valAt vs) by rw [decide_eq_true (by omega), Bool.and_true]]
  repeat' (first | refine aw_seq ?_ | refine zz ?_ | refine zon fun _ => ?_ | refine zoa fun vr lr hr => ?_ | refine zoS (fun _ => ?_) (fun _ => ?_) | refine zqS (fun _ => ?_) (fun _ => ?_) | refine zwS (fun _ => ?_) (fun _ => ?_))
  refine aw_for (t0 := [(3, S []), (9, .slice a vs.length cp), (10, I vs.length), (11, I (0 : Nat))]) (fun q t H => ∃ i : Nat, q = vs.length - i ∧ i ≤ vs.length ∧ (∀ j, j < i → valAt vs j = true) ∧ t = [(3, S (lastV vs i)), (9, .slice a vs.length cp), (10, I vs.length), (11, I i)] ∧ H = []) ⟨0, rfl, by omega, fun j hj => by omega, rfl, rfl⟩ (by repeat (first | exact sub_nil | refine sub_cons rfl ?_)) ?_
  rintro q t H ⟨i, rfl, hi, hall, rfl, rfl⟩
  by_cases hlt : i < vs.length
  · obtain ⟨v, he⟩ := getI hlt
    obtain ⟨g, o, rfl, hg, hc⟩ := hat i v (i : Int) he rfl
    have c0 : w.cell? ⟨g, o + (i : Int).toNat * 1, none⟩ = some (S v) := hc 0 _ rfl
    have hrr := fun w => Lab.right_ok v w
    have hno : valAt vs i = false → (List.range vs.length).all (valAt vs) = false := fun h => List.all_eq_false.2 ⟨i, List.mem_range.2 hlt, by rw [h]; decide⟩
    cases hr : rightB v
    · rw [hno (by unfold valAt; rw [he]; simp [hr])]
      rw [hr] at hrr
      repeat' (first | refine aw_seq ?_ | refine zz ?_ | refine zon fun _ => ?_ | refine zoa fun vr lr hr => ?_ | ((first | apply ao_call | apply aq_call); exact wants_a; (first | exact oc_func rfl | exact oc_clos rfl rfl | exact oc_bnd rfl rfl); (exact rfl); (first | exact fun w hw => hrr w)) | refine zoS (fun _ => ?_) (fun _ => ?_) | refine zqS (fun _ => ?_) (fun _ => ?_) | refine zwS (fun _ => ?_) (fun _ => ?_))
      exact fun w' hw => ⟨rfl, hw.below⟩
    rw [hr] at hrr
    have hva := val_last he hr
    have hls := last_snoc he
    have hle := leq_ge (lastV vs i) v
    cases hb : Op.bytesLess (lastV vs i) v
    · rw [hno (by rw [hva, hb])]
      rw [hb] at hle
      have hle' : (Op.bytesLess v (lastV vs i) || v == lastV vs i) = true := hle
      repeat' (first | refine aw_seq ?_ | refine zz ?_ | refine zon fun _ => ?_ | refine zoa fun vr lr hr => ?_ | ((first | apply ao_call | apply aq_call); exact wants_a; (first | exact oc_func rfl | exact oc_clos rfl rfl | exact oc_bnd rfl rfl); (exact rfl); (first | exact fun w hw => hrr w)) | refine zoS (fun _ => ?_) (fun _ => ?_) | refine zqS (fun _ => ?_) (fun _ => ?_) | refine zwS (fun _ => ?_) (fun _ => ?_))
      exact fun w' hw => ⟨rfl, hw.below⟩
    · rw [hb] at hle
      have hle' : (Op.bytesLess v (lastV vs i) || v == lastV vs i) = false := hle
      repeat' (first | refine aw_seq ?_ | refine zz ?_ | refine zon fun _ => ?_ | refine zoa fun vr lr hr => ?_ | ((first | apply ao_call | apply aq_call); exact wants_a; (first | exact oc_func rfl | exact oc_clos rfl rfl | exact oc_bnd rfl rfl); (exact rfl); (first | exact fun w hw => hrr w)) | refine zoS (fun _ => ?_) (fun _ => ?_) | refine zqS (fun _ => ?_) (fun _ => ?_) | refine zwS (fun _ => ?_) (fun _ => ?_))
      exact lq_normal' ⟨i + 1, rfl, by omega, fun j hj => by
        by_cases e1 : j = i
        · subst e1; rw [hva, hb]
        · exact hall j (by omega), rfl, rfl⟩ (by omega) (sub_cons' rfl (by rw [hls]) (sub_cons rfl (sub_cons rfl (sub_cons rfl sub_nil)))) hsub_a
  · obtain rfl : i = vs.length := by omega
    rw [show (List.range vs.length).all (valAt vs) = true from List.all_eq_true.2 fun j hj => hall j (List.mem_range.1 hj)]
    repeat' (first | refine aw_seq ?_ | refine zz ?_ | refine zon fun _ => ?_ | refine zoa fun vr lr hr => ?_ | refine zoS (fun _ => ?_) (fun _ => ?_) | refine zqS (fun _ => ?_) (fun _ => ?_) | refine zwS (fun _ => ?_) (fun _ => ?_))
    exact fun w' hw => ⟨rfl, hw.below⟩
set_option maxHeartbeats 16000000 in
theorem maybe_ok (op : Int) (u : Value) (vs : List Nm) (hwf : wfN vs) (w : World) (hv : TxtAt w u vs) : Calls Tryz.prog 98 #[.agg #[I op, u]] w fun e w' => e = .returned (.bool (termB (op, vs))) ∧ Below w.heap.size w w' := by
  have hln := hwf.1
  have hvl := fun w' (hb : Below w.heap.size w w') => values_ok u vs hwf w' (hv.below hb)
  obtain ⟨a, cp, rfl, -⟩ := OldRow.cells cellsS_len hv
  refine calls1 (args := [.agg #[I op, .slice a vs.length cp]]) Tryz.func98 rfl rfl rfl rfl ?_
  by_cases h0 : op < 0
  · rw [show termB (op, vs) = false by unfold termB; rw [decide_eq_false (by simp only; omega)]; rfl]
    repeat' (first | refine aw_seq ?_ | refine zz ?_ | refine zon fun _ => ?_ | refine zoa fun vr lr hr => ?_ | refine zoS (fun _ => ?_) (fun _ => ?_) | refine zqS (fun _ => ?_) (fun _ => ?_) | refine zwS (fun _ => ?_) (fun _ => ?_))
    exact fun w' hw => ⟨rfl, hw.below⟩
  by_cases h7 : 7 < op
  · rw [show termB (op, vs) = false by unfold termB; rw [decide_eq_false (by simp only; omega)]; rfl]
    repeat' (first | refine aw_seq ?_ | refine zz ?_ | refine zon fun _ => ?_ | refine zoa fun vr lr hr => ?_ | refine zoS (fun _ => ?_) (fun _ => ?_) | refine zqS (fun _ => ?_) (fun _ => ?_) | refine zwS (fun _ => ?_) (fun _ => ?_))
    exact fun w' hw => ⟨rfl, hw.below⟩
  by_cases h1 : 1 < op
  · rw [show termB (op, vs) = ((vs.length : Int) == 0) by
      unfold termB
      rw [decide_eq_true (by simp only; omega), if_pos h1, Bool.eq_iff_iff]
      simp]
    repeat' (first | refine aw_seq ?_ | refine zz ?_ | refine zon fun _ => ?_ | refine zoa fun vr lr hr => ?_ | refine zoS (fun _ => ?_) (fun _ => ?_) | refine zqS (fun _ => ?_) (fun _ => ?_) | refine zwS (fun _ => ?_) (fun _ => ?_))
    exact fun w' hw => ⟨rfl, hw.below⟩
  have hvq : termB (op, vs) = ((List.range vs.length).all (valAt vs) && decide (1 ≤ vs.length ∧ vs.length ≤ 8)) := by unfold termB; rw [decide_eq_true (by simp only; omega), if_neg h1]; rfl
  by_cases hne : vs.length = 0
  · rw [show termB (op, vs) = false by rw [hvq, decide_eq_false (by omega), Bool.and_false]]
    have hgt : decide (0 < (vs.length : Int)) = false := decide_eq_false (by omega)
    obtain rfl | rfl : op = 0 ∨ op = 1 := by omega
    all_goals
      repeat' (first | refine aw_seq ?_ | refine zz ?_ | refine zon fun _ => ?_ | refine zoa fun vr lr hr => ?_ | refine zoS (fun _ => ?_) (fun _ => ?_) | refine zqS (fun _ => ?_) (fun _ => ?_) | refine zwS (fun _ => ?_) (fun _ => ?_))
      exact fun w' hw => ⟨rfl, hw.below⟩
  · rw [show termB (op, vs) = ((List.range vs.length).all (valAt vs) && decide (vs.length ≤ 8)) by rw [hvq, show decide (1 ≤ vs.length ∧ vs.length ≤ 8) = decide (vs.length ≤ 8) by rw [Bool.eq_iff_iff]; simp; omega]]
    have hgt : decide (0 < (vs.length : Int)) = true := decide_eq_true (by omega)
    obtain rfl | rfl : op = 0 ∨ op = 1 := by omega
    all_goals
      repeat' (first | refine aw_seq ?_ | refine zz ?_ | refine zon fun _ => ?_ | refine zoa fun vr lr hr => ?_ | ((first | apply ao_call | apply aq_call); exact wants_a; (first | exact oc_func rfl | exact oc_clos rfl rfl | exact oc_bnd rfl rfl); (exact rfl); (first | exact fun w hw => hvl w hw.below)) | refine zoS (fun _ => ?_) (fun _ => ?_) | refine zqS (fun _ => ?_) (fun _ => ?_) | refine zwS (fun _ => ?_) (fun _ => ?_))
      exact fun w' hw => ⟨rfl, hw.below⟩
set_option maxHeartbeats 8000000 in
theorem pright_ok (v : Value) (ps : List (Value × Trm)) (hwf : wfP ps) (w : World) (hv : ScpAt w v ps) : Calls Tryz.prog 62 #[v] w fun e w' => e = .returned (.bool (rightS (trms ps))) ∧ Below w.heap.size w w' := by
  have hln := hwf.1
  obtain ⟨a, cp, rfl, hat⟩ := OldRow.cells cellsT_len hv.1
  refine calls1 (args := [.slice a ps.length cp]) Tryz.func62 rfl rfl rfl rfl ?_
  by_cases h8 : 8 < ps.length
  · rw [show rightS (trms ps) = false by unfold rightS; rw [List.length_map, decide_eq_false (by omega), Bool.and_false]]
    repeat' (first | refine aw_seq ?_ | refine zz ?_ | refine zon fun _ => ?_ | refine zoa fun vr lr hr => ?_ | refine zoS (fun _ => ?_) (fun _ => ?_) | refine zqS (fun _ => ?_) (fun _ => ?_) | refine zwS (fun _ => ?_) (fun _ => ?_))
    exact fun w' hw => ⟨rfl, hw.below⟩
  repeat' (first | refine aw_seq ?_ | refine zz ?_ | refine zon fun _ => ?_ | refine zoa fun vr lr hr => ?_ | refine zoS (fun _ => ?_) (fun _ => ?_) | refine zqS (fun _ => ?_) (fun _ => ?_) | refine zwS (fun _ => ?_) (fun _ => ?_))
  refine aw_for (t0 := [(8, .slice a ps.length cp), (9, I ps.length), (10, I (0 : Nat))]) (fun q t H => ∃ i : Nat, q = ps.length - i ∧ i ≤ ps.length ∧ (∀ (j : Nat) (p : Value × Trm), j < i → ps[j]? = some p → termB p.2 = true) ∧ t = [(8, .slice a ps.length cp), (9, I ps.length), (10, I i)] ∧ H = []) ⟨0, rfl, by omega, fun j p hj => by omega, rfl, rfl⟩ (by repeat (first | exact sub_nil | refine sub_cons rfl ?_)) ?_
  rintro q t H ⟨i, rfl, hi, hall, rfl, rfl⟩
  by_cases hlt : i < ps.length
  · obtain ⟨⟨u, op, vs⟩, he⟩ := getI hlt
    have hm := List.mem_of_getElem? he
    obtain ⟨ua, uc, hus, -⟩ := OldRow.cells cellsS_len (hv.2 _ hm)
    simp only at hus
    subst hus
    obtain ⟨g, o, rfl, hg, hc⟩ := hat i _ (i : Int) he rfl
    have cA : ∀ (j : Nat) x, [I op, .slice ua vs.length uc][j]? = some x → w.cell? ⟨g, o + (i : Int).toNat * 2 + j, none⟩ = some x := hc
    have ht := fun w' (hb : Below w.heap.size w w') => maybe_ok op _ vs (hwf.2 _ hm) w' ((hv.2 _ hm).below hb)
    cases hr : termB (op, vs)
    · rw [right_f (term_mem he) hr]
      rw [hr] at ht
      repeat' (first | refine aw_seq ?_ | ((first | apply ao_val | apply aq_val); exact wants_a; (first | exact ov_load_oa rfl hg cA rfl | exact ov_a); (exact rfl)) | refine zy ?_ | refine zon fun _ => ?_ | refine zoa fun vr lr hr => ?_ | ((first | apply ao_call | apply aq_call); exact wants_a; (first | exact oc_func rfl | exact oc_clos rfl rfl | exact oc_bnd rfl rfl); (exact rfl); (first | exact fun w hw => ht w hw.below)) | refine zoS (fun _ => ?_) (fun _ => ?_) | refine zqS (fun _ => ?_) (fun _ => ?_) | refine zwS (fun _ => ?_) (fun _ => ?_))
      exact fun w' hw => ⟨rfl, hw.below⟩
    · rw [hr] at ht
      repeat' (first | refine aw_seq ?_ | ((first | apply ao_val | apply aq_val); exact wants_a; (first | exact ov_load_oa rfl hg cA rfl | exact ov_a); (exact rfl)) | refine zy ?_ | refine zon fun _ => ?_ | refine zoa fun vr lr hr => ?_ | ((first | apply ao_call | apply aq_call); exact wants_a; (first | exact oc_func rfl | exact oc_clos rfl rfl | exact oc_bnd rfl rfl); (exact rfl); (first | exact fun w hw => ht w hw.below)) | refine zoS (fun _ => ?_) (fun _ => ?_) | refine zqS (fun _ => ?_) (fun _ => ?_) | refine zwS (fun _ => ?_) (fun _ => ?_))
      exact lq_normal' ⟨i + 1, rfl, by omega, fun j x hj hx => by
        by_cases e1 : j = i
        · subst e1; rw [he] at hx; cases hx; exact hr
        · exact hall j x (by omega) hx, rfl, rfl⟩ (by omega) (by repeat (first | exact sub_nil | refine sub_cons rfl ?_)) hsub_a
  · obtain rfl : i = ps.length := by omega
    rw [show rightS (trms ps) = true by
      unfold rightS
      rw [show (trms ps).all termB = true from List.all_eq_true.2 fun t ht => by
        obtain ⟨p, hp, rfl⟩ := List.mem_map.1 ht
        obtain ⟨j, hj⟩ := List.getElem?_of_mem hp
        exact hall j p (List.getElem?_eq_some_iff.1 hj).1 hj, List.length_map, Bool.true_and]
      exact decide_eq_true (by omega)]
    repeat' (first | refine aw_seq ?_ | refine zz ?_ | refine zon fun _ => ?_ | refine zoa fun vr lr hr => ?_ | refine zoS (fun _ => ?_) (fun _ => ?_) | refine zqS (fun _ => ?_) (fun _ => ?_) | refine zwS (fun _ => ?_) (fun _ => ?_))
    exact fun w' hw => ⟨rfl, hw.below⟩
def idxV (vs : List Nm) (c : Nm) : Int := if c ∈ vs then (vs.idxOf c : Int) else -1
theorem idx_at {vs : List Nm} {c : Nm} {i : Nat} (hi : vs[i]? = some c) (hno : c ∉ vs.take i) : idxV vs c = i := by
  have hlt := (List.getElem?_eq_some_iff.1 hi).1
  have e : vs = vs.take i ++ c :: vs.drop (i + 1) := by
    have h1 : vs.drop i = c :: vs.drop (i + 1) := by rw [List.drop_eq_getElem_cons hlt, (List.getElem?_eq_some_iff.1 hi).2]
    rw [← h1, List.take_append_drop]
  unfold idxV
  rw [if_pos (List.mem_of_getElem? hi)]
  conv => lhs; rw [e]
  rw [List.idxOf_append, if_neg hno, List.idxOf_cons_self, List.length_take]
  omega
theorem idx_ge (vs : List Nm) (c : Nm) : decide (0 ≤ idxV vs c) = decide (c ∈ vs) := by
  unfold idxV
  split
  · rename_i h
    rw [decide_eq_true (by omega), decide_eq_true h]
  · rename_i h
    rw [decide_eq_false (by omega), decide_eq_false h]
set_option maxHeartbeats 4000000 in
theorem sindex_ok (u : Value) (vs : List Nm) (c : Nm) (hln : vs.length ≤ 100000) (w : World) (hv : TxtAt w u vs) : Calls Tryz.prog 182 #[u, S c] w fun e w' => e = .returned (I (idxV vs c)) ∧ Below w.heap.size w w' := by
  obtain ⟨a, cp, rfl, hat⟩ := OldRow.cells cellsS_len hv
  refine calls1 (args := [.slice a vs.length cp, S c]) Tryz.func182 rfl rfl rfl rfl ?_
  repeat' (first | refine aw_seq ?_ | refine zz ?_ | refine zon fun _ => ?_ | refine zoa fun vr lr hr => ?_ | refine zoS (fun _ => ?_) (fun _ => ?_) | refine zqS (fun _ => ?_) (fun _ => ?_) | refine zwS (fun _ => ?_) (fun _ => ?_))
  refine aw_for (t0 := [(0, .slice a vs.length cp), (1, S c), (7, I vs.length), (8, I (0 : Nat))]) (fun q t H => ∃ i : Nat, q = vs.length - i ∧ i ≤ vs.length ∧ c ∉ vs.take i ∧ t = [(0, .slice a vs.length cp), (1, S c), (7, I vs.length), (8, I i)] ∧ H = []) ⟨0, rfl, by omega, by simp, rfl, rfl⟩ (by repeat (first | exact sub_nil | refine sub_cons rfl ?_)) ?_
  rintro q t H ⟨i, rfl, hi, hno, rfl, rfl⟩
  by_cases hlt : i < vs.length
  · obtain ⟨v, he⟩ := getI hlt
    obtain ⟨g, o, rfl, hg, hc⟩ := hat i v (i : Int) he rfl
    have c0 : w.cell? ⟨g, o + (i : Int).toNat * 1, none⟩ = some (S v) := hc 0 _ rfl
    by_cases hcv : c = v
    · subst hcv
      rw [idx_at he hno]
      have hb : (c == c) = true := beq_self_eq_true _
      repeat' (first | refine aw_seq ?_ | refine zz ?_ | refine zon fun _ => ?_ | refine zoa fun vr lr hr => ?_ | refine zoS (fun _ => ?_) (fun _ => ?_) | refine zqS (fun _ => ?_) (fun _ => ?_) | refine zwS (fun _ => ?_) (fun _ => ?_))
      exact fun w' hw => ⟨rfl, hw.below⟩
    · have hb : (c == v) = false := beq_eq_false_iff_ne.2 hcv
      repeat' (first | refine aw_seq ?_ | refine zz ?_ | refine zon fun _ => ?_ | refine zoa fun vr lr hr => ?_ | refine zoS (fun _ => ?_) (fun _ => ?_) | refine zqS (fun _ => ?_) (fun _ => ?_) | refine zwS (fun _ => ?_) (fun _ => ?_))
      exact lq_normal' ⟨i + 1, rfl, by omega, by rw [List.take_add_one, he]; simp [hno, hcv], rfl, rfl⟩ (by omega) (by repeat (first | exact sub_nil | refine sub_cons rfl ?_)) hsub_a
  · obtain rfl : i = vs.length := by omega
    rw [List.take_length] at hno
    rw [show idxV vs c = -1 by unfold idxV; rw [if_neg hno]]
    repeat' (first | refine aw_seq ?_ | refine zz ?_ | refine zon fun _ => ?_ | refine zoa fun vr lr hr => ?_ | refine zoS (fun _ => ?_) (fun _ => ?_) | refine zqS (fun _ => ?_) (fun _ => ?_) | refine zwS (fun _ => ?_) (fun _ => ?_))
    exact fun w' hw => ⟨rfl, hw.below⟩
theorem contains_ok (u : Value) (vs : List Nm) (c : Nm) (hln : vs.length ≤ 100000) (w : World) (hv : TxtAt w u vs) : Calls Tryz.prog 179 #[u, S c] w fun e w' => e = .returned (.bool (decide (c ∈ vs))) ∧ Below w.heap.size w w' := by
  have hx := fun w' (hb : Below w.heap.size w w') => sindex_ok u vs c hln w' (hv.below hb)
  rw [← idx_ge]
  refine calls1 (args := [u, S c]) Tryz.func179 rfl rfl rfl rfl ?_
  repeat' (first | refine aw_seq ?_ | refine zz ?_ | refine zon fun _ => ?_ | refine zoa fun vr lr hr => ?_ | ((first | apply ao_call | apply aq_call); exact wants_a; (first | exact oc_func rfl | exact oc_clos rfl rfl | exact oc_bnd rfl rfl); (exact rfl); (first | exact fun w hw => hx w hw.below)) | refine zoS (fun _ => ?_) (fun _ => ?_) | refine zqS (fun _ => ?_) (fun _ => ?_) | refine zwS (fun _ => ?_) (fun _ => ?_))
  exact fun w' hw => ⟨rfl, hw.below⟩
set_option maxHeartbeats 16000000 in
theorem pasks_ok (op : Int) (u : Value) (vs : List Nm) (k s n : Nm) (ver : Int) (c : Nm) (tm bs : Bool) (ov : Value) (hop : 0 ≤ op ∧ op ≤ 7) (hwf : wfN vs) (w : World) (hv : TxtAt w u vs) :
    Calls Tryz.prog 175 #[.agg #[I op, u], OC k s n ver c tm bs ov] w fun e w' => e = .returned (.bool (asksB op vs c tm bs)) ∧ Below w.heap.size w w' := by
  have hx := fun w' (hb : Below w.heap.size w w') => contains_ok u vs c hwf.1 w' (hv.below hb)
  refine calls1 (args := [.agg #[I op, u], OC k s n ver c tm bs ov]) Tryz.func175 rfl rfl rfl rfl ?_
  obtain rfl | rfl | rfl | rfl | rfl | rfl | rfl | rfl : op = 0 ∨ op = 1 ∨ op = 2 ∨ op = 3 ∨ op = 4 ∨ op = 5 ∨ op = 6 ∨ op = 7 := by omega
  all_goals
    repeat' (first | refine aw_seq ?_ | refine zz ?_ | refine zon fun _ => ?_ | refine zoa fun vr lr hr => ?_ | ((first | apply ao_call | apply aq_call); exact wants_a; (first | exact oc_func rfl | exact oc_clos rfl rfl | exact oc_bnd rfl rfl); (exact rfl); (first | exact fun w hw => hx w hw.below)) | refine zoS (fun _ => ?_) (fun _ => ?_) | refine zqS (fun _ => ?_) (fun _ => ?_) | refine zwS (fun _ => ?_) (fun _ => ?_))
    exact fun w' hw => ⟨rfl, hw.below⟩
set_option maxHeartbeats 8000000 in
theorem pmatch_ok (v : Value) (ps : List (Value × Trm)) (k s n : Nm) (ver : Int) (c : Nm) (tm bs : Bool) (ov : Value) (hwf : wfP ps) (w : World) (hv : ScpAt w v ps) :
    Calls Tryz.prog 159 #[v, OC k s n ver c tm bs ov] w fun e w' => e = .returned (.bool (matchS (trms ps) c tm bs)) ∧ Below w.heap.size w w' := by
  have hln := hwf.1
  have hrg := fun w' (hb : Below w.heap.size w w') => pright_ok v ps hwf w' (hv.below hb)
  obtain ⟨a, cp, rfl, hat⟩ := OldRow.cells cellsT_len hv.1
  refine calls1 (args := [.slice a ps.length cp, OC k s n ver c tm bs ov]) Tryz.func159 rfl rfl rfl rfl ?_
  cases hrt : rightS (trms ps)
  · rw [show matchS (trms ps) c tm bs = false by unfold matchS; rw [hrt, Bool.and_false]]
    rw [hrt] at hrg
    repeat' (first | refine aw_seq ?_ | refine zz ?_ | refine zon fun _ => ?_ | refine zoa fun vr lr hr => ?_ | ((first | apply ao_call | apply aq_call); exact wants_a; (first | exact oc_func rfl | exact oc_clos rfl rfl | exact oc_bnd rfl rfl); (exact rfl); (first | exact fun w hw => hrg w hw.below)) | refine zoS (fun _ => ?_) (fun _ => ?_) | refine zqS (fun _ => ?_) (fun _ => ?_) | refine zwS (fun _ => ?_) (fun _ => ?_))
    exact fun w' hw => ⟨rfl, hw.below⟩
  rw [hrt] at hrg
  have hall : ∀ p ∈ ps, termB p.2 = true := fun p hp => by
    unfold rightS at hrt
    rw [Bool.and_eq_true, List.all_eq_true] at hrt
    exact hrt.1 p.2 (List.mem_map_of_mem hp)
  repeat' (first | refine aw_seq ?_ | refine zz ?_ | refine zon fun _ => ?_ | refine zoa fun vr lr hr => ?_ | ((first | apply ao_call | apply aq_call); exact wants_a; (first | exact oc_func rfl | exact oc_clos rfl rfl | exact oc_bnd rfl rfl); (exact rfl); (first | exact fun w hw => hrg w hw.below)) | refine zoS (fun _ => ?_) (fun _ => ?_) | refine zqS (fun _ => ?_) (fun _ => ?_) | refine zwS (fun _ => ?_) (fun _ => ?_))
  refine aw_for (t0 := [(3, .pointer (some ⟨_, 0, none⟩)), (10, .slice a ps.length cp), (11, I ps.length), (12, I (0 : Nat))]) (fun q t H => ∃ g2 i : Nat, q = ps.length - i ∧ i ≤ ps.length ∧ (∀ (j : Nat) (p : Value × Trm), j < i → ps[j]? = some p → holdsB p.2 c tm bs = true) ∧ t = [(3, .pointer (some ⟨g2, 0, none⟩)), (10, .slice a ps.length cp), (11, I ps.length), (12, I i)] ∧ H = [(g2, .cells #[S k, S s, S n, I ver, S c, .bool tm, .bool bs, ov] 45)]) ⟨_, 0, rfl, by omega, fun j p hj => by omega, rfl, rfl⟩ (by repeat (first | exact sub_nil | refine sub_cons rfl ?_)) ?_
  rintro q t H ⟨g2, i, rfl, hi, hl, rfl, rfl⟩
  by_cases hlt : i < ps.length
  · obtain ⟨⟨u, op, vs⟩, he⟩ := getI hlt
    have hm := List.mem_of_getElem? he
    obtain ⟨ua, uc, hus, -⟩ := OldRow.cells cellsS_len (hv.2 _ hm)
    simp only at hus
    subst hus
    obtain ⟨g, o, rfl, hg, hc⟩ := hat i _ (i : Int) he rfl
    have cA : ∀ (j : Nat) x, [I op, .slice ua vs.length uc][j]? = some x → w.cell? ⟨g, o + (i : Int).toNat * 2 + j, none⟩ = some x := hc
    have htb := hall _ hm
    have hop : 0 ≤ op ∧ op ≤ 7 := by
      have := htb
      unfold termB at this
      simp only [Bool.and_eq_true, decide_eq_true_eq] at this
      exact this.1
    have hhq : holdsB (op, vs) c tm bs = asksB op vs c tm bs := by unfold holdsB; rw [htb]; rfl
    have ht := fun w' (hb : Below w.heap.size w w') => pasks_ok op _ vs k s n ver c tm bs ov hop (hwf.2 _ hm) w' ((hv.2 _ hm).below hb)
    rw [← hhq] at ht
    cases hr : holdsB (op, vs) c tm bs
    · rw [match_f (term_mem he) hr]
      rw [hr] at ht
      repeat' (first | refine aw_seq ?_ | ((first | apply ao_val | apply aq_val); exact wants_a; (first | exact ov_load_oa rfl hg cA rfl | exact ov_a); (exact rfl)) | refine zy ?_ | refine zon fun _ => ?_ | refine zoa fun vr lr hr => ?_ | ((first | apply ao_call | apply aq_call); exact wants_a; (first | exact oc_func rfl | exact oc_clos rfl rfl | exact oc_bnd rfl rfl); (exact rfl); (first | exact fun w hw => ht w hw.below)) | refine zoS (fun _ => ?_) (fun _ => ?_) | refine zqS (fun _ => ?_) (fun _ => ?_) | refine zwS (fun _ => ?_) (fun _ => ?_))
      exact fun w' hw => ⟨rfl, hw.below⟩
    · rw [hr] at ht
      repeat' (first | refine aw_seq ?_ | ((first | apply ao_val | apply aq_val); exact wants_a; (first | exact ov_load_oa rfl hg cA rfl | exact ov_a); (exact rfl)) | refine zy ?_ | refine zon fun _ => ?_ | refine zoa fun vr lr hr => ?_ | ((first | apply ao_call | apply aq_call); exact wants_a; (first | exact oc_func rfl | exact oc_clos rfl rfl | exact oc_bnd rfl rfl); (exact rfl); (first | exact fun w hw => ht w hw.below)) | refine zoS (fun _ => ?_) (fun _ => ?_) | refine zqS (fun _ => ?_) (fun _ => ?_) | refine zwS (fun _ => ?_) (fun _ => ?_))
      exact lq_normal' ⟨g2, i + 1, rfl, by omega, fun j x hj hx => by
        by_cases e1 : j = i
        · subst e1; rw [he] at hx; cases hx; exact hr
        · exact hl j x (by omega) hx, rfl, rfl⟩ (by omega) (by repeat (first | exact sub_nil | refine sub_cons rfl ?_)) hsub_a
  · obtain rfl : i = ps.length := by omega
    rw [show matchS (trms ps) c tm bs = true by
      unfold matchS
      rw [hrt, Bool.and_true]
      exact List.all_eq_true.2 fun t ht => by
        obtain ⟨p, hp, rfl⟩ := List.mem_map.1 ht
        obtain ⟨j, hj⟩ := List.getElem?_of_mem hp
        exact hl j p (List.getElem?_eq_some_iff.1 hj).1 hj]
    repeat' (first | refine aw_seq ?_ | refine zz ?_ | refine zon fun _ => ?_ | refine zoa fun vr lr hr => ?_ | refine zoS (fun _ => ?_) (fun _ => ?_) | refine zqS (fun _ => ?_) (fun _ => ?_) | refine zwS (fun _ => ?_) (fun _ => ?_))
    exact fun w' hw => ⟨rfl, hw.below⟩
end Scp
end Go.Proofs.YtkjjlppfomidbaaGreat
