/- Slices of structs: their elements' cells, what is appended out of memory that was there at the call, empty slices; conditions: none. -/
import Derived.Test.YtpenogailhlcaaaSxg
namespace Go.Proofs.Ytpenogailhlcaaa
namespace Sx
open Go Go.RowKit

/-! Cells of a row of elements of one size. -/
theorem flat_len {α : Type} {f : α → List Value} {sz : Nat} (hf : ∀ a, (f a).length = sz) : ∀ (l : List α), (l.flatMap f).length = l.length * sz
  | [] => by simp
  | a :: l => by rw [List.flatMap_cons, List.length_append, hf, flat_len hf l, List.length_cons, Nat.add_mul, Nat.one_mul, Nat.add_comm]
theorem flat_at {α : Type} {f : α → List Value} {sz : Nat} (hf : ∀ a, (f a).length = sz) : ∀ (l : List α) (i r : Nat) (a : α) (u : Value), l[i]? = some a → (f a)[r]? = some u → (l.flatMap f)[i * sz + r]? = some u
  | [], i, r, a, u, h, _ => by simp at h
  | b :: l, 0, r, a, u, h, hu => by
    simp only [List.getElem?_cons_zero, Option.some.injEq] at h
    subst h
    have := (List.getElem?_eq_some_iff.1 hu).1
    rw [List.flatMap_cons, Nat.zero_mul, Nat.zero_add, List.getElem?_append_left this]
    exact hu
  | b :: l, i + 1, r, a, u, h, hu => by
    rw [List.flatMap_cons, List.getElem?_append_right (by rw [hf, Nat.add_mul]; omega), hf]
    have e : (i + 1) * sz + r - sz = i * sz + r := by rw [Nat.add_mul]; omega
    rw [e]
    exact flat_at hf l i r a u (by simpa using h) hu
theorem flat_at_inv {α : Type} {f : α → List Value} {sz : Nat} (hf : ∀ a, (f a).length = sz) : ∀ (l : List α) (j : Nat) (u : Value), (l.flatMap f)[j]? = some u → ∃ (i r : Nat) (a : α), j = i * sz + r ∧ l[i]? = some a ∧ (f a)[r]? = some u
  | [], j, u, h => by simp at h
  | b :: l, j, u, h => by
    rw [List.flatMap_cons] at h
    by_cases hj : j < sz
    · rw [List.getElem?_append_left (by rw [hf]; exact hj)] at h
      exact ⟨0, j, b, by simp, rfl, h⟩
    · rw [List.getElem?_append_right (by rw [hf]; omega), hf] at h
      obtain ⟨i, r, a, h1, h2, h3⟩ := flat_at_inv hf l _ u h
      exact ⟨i + 1, r, a, by rw [Nat.add_mul]; omega, by simpa using h2, h3⟩
/-- An element of a row that came in. -/
theorem OldRow.cells {α : Type} {f : α → List Value} {sz : Nat} (hf : ∀ a, (f a).length = sz) {w : World} {v : Value} {es : List α} (h : OldRow w sz v es.length (es.flatMap f)) :
    ∃ a c, v = .slice a es.length c ∧ ∀ (i : Nat) (e : α) (z : Int), es[i]? = some e → z = (i : Int) → ∃ g o, a = some ⟨g, o, none⟩ ∧ g < w.heap.size ∧ ∀ (r : Nat) u, (f e)[r]? = some u → w.cell? ⟨g, o + z.toNat * sz + r, none⟩ = some u := by
  obtain ⟨_, a, c, rfl, h2⟩ := h
  refine ⟨a, c, rfl, fun i e z hi hz => ?_⟩
  have hlt := (List.getElem?_eq_some_iff.1 hi).1
  obtain ⟨g, o, rfl, h3, h4⟩ := h2 (by omega)
  refine ⟨g, o, rfl, h3, fun r u hu => ?_⟩
  rw [hz, Int.toNat_natCast, Nat.add_assoc]
  exact h4 _ _ (flat_at hf es i r e u hi hu)
/-- An element of a row of the call's own. -/
theorem RowB.cells {α : Type} {f : α → List Value} {e : TypeId} {sz : Nat} (hf : ∀ a, (f a).length = sz) {v : Value} {l : Hp} {es : List α} (h : RowB e sz v l es.length (es.flatMap f)) {i : Nat} {x : α} (hi : es[i]? = some x) :
    ∃ g cap cs, v = .slice (some ⟨g, 0, none⟩) es.length cap ∧ l = [(g, .cells (List.toArray cs) e (0, 0))] ∧ ∀ (r : Nat) u, (f x)[r]? = some u → cs[0 + i * sz + r]? = some u := by
  have hlt := (List.getElem?_eq_some_iff.1 hi).1
  obtain ⟨g, cap, cs, h1, h2, h3, h4, h5⟩ := h.open (by omega)
  refine ⟨g, cap, cs, h1, h2, fun r u hu => ?_⟩
  rw [Nat.zero_add]
  exact row_cell h5 (flat_at hf es i r x u hi hu)

section
variable {P : Program} {E : Env} {kd : Bool} {Q : Exit → Tm → Hp → Prop} {t : Tm} {H : Hp} {ops : Array Oper} {rest : List Oper} {ty : TypeId}

/-- A slice written out that holds nothing. -/
theorem on_bslice0 {bt e : TypeId} {sz by_ : Nat} [TySl P bt e sz by_] : OpN P E (.buildSlice bt 0 #[]) ty t H (.cells #[] e (0, 0)) (fun b => .slice (some ⟨b, 0, none⟩) 0 0) := by
  intro a w ht _ o ho _
  obtain ⟨i, z, hu, hi, hz, rfl, rfl, hzs⟩ := TySl.sl (P := P) (t := bt)
  have hs : (P.info? e).map (·.size) = some i.size := by rw [hi]; rfl
  simp only [execOp, ho, Instr.buildSlice, Sem.run_bind, run_underlying hu, Result.andThen, run_sizeOf hs, Nat.zero_mul, if_true, Sem.run, pure]
  have hz0 : Array.range 0 = #[] := Array.eq_empty_of_size_eq_zero (by simp)
  simp [Instr.fill, newRow, newObj, Sem.run_bind, Sem.run, pure, Result.andThen, hz0]
theorem RowB.lit0 {e : TypeId} {sz g : Nat} : RowB e sz (.slice (some ⟨g, 0, none⟩) 0 0) [(g, .cells #[] e (0, 0))] 0 [] :=
  ⟨by simp, .inr ⟨g, 0, #[], rfl, rfl, Nat.le_refl _, by simp, by simp⟩⟩

/-- append of nothing to a row of the call's own. -/
theorem ao_append0 {d : Nat} {x y : Operand} {t1 ty2 e : TypeId} {sz by_ : Nat} {pos : String} {af : Array Edge} {gd : Option (Nat × Bool)} {v : Value} {l : Hp} {n c2 : Nat} {a2 : Option Addr} {xs : List Value} [TySl P t1 e sz by_]
    (hw : Wants ops t gd) (hx : ev t x = some v) (hrow : RowB e sz v l n xs) (hy : ev t y = some (.slice a2 0 c2)) (hd : Nat.blt d E.n = true)
    (h : ao kd P E ops Q rest ((d, v) :: t) H) :
    ao kd P E ops Q (⟨some d, .call ⟨.builtin .append, #[x, y], #[t1, t1]⟩, ty2, pos, af, gd⟩ :: rest) t H := by
  unfold ao at h ⊢
  intro m0 hm0 ex hid a w hdx ht hh
  refine wpM_step fun K hK => ?_
  rw [if_pos (wants_of ht hw)]
  obtain ⟨i, z, hu, hi, hz, rfl, rfl, hzs⟩ := TySl.sl (P := P) (t := t1)
  have hs : (P.info? e).map (·.size) = some i.size := by rw [hi]; rfl
  have hev : (execOp a.eval ⟨some d, .call ⟨.builtin .append, #[x, y], #[t1, t1]⟩, ty2, pos, af, gd⟩).run P w = .ok (.value v) w := by
    have hr : (Builtin.append_ #[t1, t1] ty2 #[v, .slice a2 0 c2]).run P w = .ok v w := by
      have hfc : (Builtin.firstCells i.size 0 (.slice a2 0 c2)).run P w = .ok #[] w := by
        cases a2 with
        | none => exact run_firstCells_none (P := P) w i.size 0 0 c2
        | some a2 => exact run_firstCells_some (P := P) w i.size 0 a2 0 c2 [] (by simp) (fun j u hj => by simp at hj)
      rcases hrow.2 with ⟨rfl, rfl, rfl⟩ | ⟨g, cap, cur, rfl, rfl, hnc, hcs, htake⟩
      · simp [Builtin.append_, run_underlying hu, sizeOf, typeInfo, hi, Builtin.lenOf, hfc]
      · simp [Builtin.append_, run_underlying hu, sizeOf, typeInfo, hi, Builtin.lenOf, hfc, hnc, storeCells]
    simp only [execOp, resolve, List.map_toArray, List.map_cons, List.map_nil, ev_eval ht hx, ev_eval ht hy, invoke, builtin, pure_bind, Sem.run_bind, hr, Result.andThen]
    rfl
  exact opM_value hev (hK _ _ (h m0 hm0 ex hid _ w hdx (ht.put hd) hh))

/-- append of a row that came in to a row of the call's own. -/
theorem ao_append_o {d : Nat} {x y : Operand} {t1 ty2 e : TypeId} {sz by_ : Nat} {pos : String} {af : Array Edge} {gd : Option (Nat × Bool)} {v u : Value} {l R : Hp} {n m : Nat} {xs news : List Value} [TySl P t1 e sz by_]
    (hw : Wants ops t gd) (hx : ev t x = some v) (hrow : RowB e sz v l n xs) (hy : ev t y = some u) (hold : OldRow E.w0 sz u m news) (hE : E.B = E.w0.heap.size) (hcut : Cut H l R)
    (hf : news.all flat = true) (hbd : (n + m) * by_ ≤ 140737488355328) (h63 : n + m ≤ 9223372036854775807) (hd : Nat.blt d E.n = true)
    (h : ∀ v' l', RowB e sz v' l' (n + m) (xs ++ news) → ao kd P E ops Q rest ((d, v') :: t) (l' ++ R)) :
    ao kd P E ops Q (⟨some d, .call ⟨.builtin .append, #[x, y], #[t1, t1]⟩, ty2, pos, af, gd⟩ :: rest) t H := by
  rcases Nat.eq_zero_or_pos m with h0 | h0
  · subst h0
    obtain ⟨hl, a, c, rfl, -⟩ := hold
    have hn0 : news = [] := List.eq_nil_of_length_eq_zero (by simpa using hl)
    subst hn0
    refine ao_append0 hw hx hrow hy hd ?_
    have := h v l (by simpa using hrow)
    exact ao_permH hcut this
  · obtain ⟨g, o, c, rfl, hg, hcells⟩ := hold.open h0
    refine ao_append_g hw hx hrow hy hcut hold.1 (fun w hh j u hj => ?_) hf h0 hbd h63 hd h
    rw [add_off]
    exact (hh.below.cell (p := ⟨g, o + j, none⟩) (by rw [hE]; exact hg)).trans (hcells j u hj)
end

/-! Structs of structs: compared cell by cell. -/
def shpF (P : Program) (g : TypeId → Option (List TypeDesc)) : Nat → List Field → Option (List TypeDesc)
  | _, [] => some []
  | pos, x :: fs =>
    match x.name == "_", Nat.beq x.offset pos, g x.type with
    | false, true, some ds => if ((P.info? x.type).map (·.size) == some ds.length && !ds.isEmpty) = true then (match shpF P g (pos + ds.length) fs with | some r => some (ds ++ r) | none => none) else none
    | _, _, _ => none
def shp (P : Program) : Nat → TypeId → Option (List TypeDesc)
  | 0, _ => none
  | f + 1, t =>
    match P.underlying t with
    | some (.struct fs) => if P.stoodInHeld t = true then none else shpF P (shp P f) 0 fs.toList
    | some .bool => some [.bool]
    | some (.int k) => some [.int k]
    | some .string => some [.string]
    | _ => none
def valOf (P : Program) (t : TypeId) (xs : List Value) : Value :=
  match P.underlying t with
  | some (.struct _) => .agg xs.toArray
  | _ => xs.headD default
theorem fitAll_len : ∀ {ds : List TypeDesc} {xs : List Value}, fitAll ds xs = true → xs.length = ds.length
  | [], [], _ => rfl
  | d :: ds, x :: xs, h => by
    simp only [fitAll, Bool.and_eq_true] at h
    simp [fitAll_len h.2]
  | [], _ :: _, h => by simp [fitAll] at h
  | _ :: _, [], h => by simp [fitAll] at h
theorem fitAll_app : ∀ {ds es : List TypeDesc} {xs : List Value}, fitAll (ds ++ es) xs = true → fitAll ds (xs.take ds.length) = true ∧ fitAll es (xs.drop ds.length) = true
  | [], es, xs, h => ⟨by simp [fitAll], by simpa using h⟩
  | d :: ds, es, [], h => by simp [fitAll] at h
  | d :: ds, es, x :: xs, h => by
    simp only [List.cons_append, fitAll, Bool.and_eq_true] at h
    have := fitAll_app h.2
    simp only [List.length_cons, List.take_succ_cons, List.drop_succ_cons, fitAll, Bool.and_eq_true]
    exact ⟨⟨h.1, this.1⟩, this.2⟩
theorem eqAll_app : ∀ {x1 y1 x2 y2 : List Value}, x1.length = y1.length → x1 ≠ [] → x2.length = y2.length → eqAll (x1 ++ x2) (y1 ++ y2) = (eqAll x1 y1 && eqAll x2 y2)
  | [], _, _, _, _, h, _ => absurd rfl h
  | [x], [y], [], [], _, _, _ => by simp [eqAll]
  | [x], [y], a :: x2, b :: y2, _, _, _ => by simp [eqAll]
  | [x], [y], [], _ :: _, _, _, h => by simp at h
  | [x], [y], _ :: _, [], _, _, h => by simp at h
  | x :: x' :: x1, y :: y' :: y1, x2, y2, h, _, g => by
    have := eqAll_app (x1 := x' :: x1) (y1 := y' :: y1) (by simpa using h) (by simp) g
    simp only [List.cons_append] at this ⊢
    simp only [eqAll, this, Bool.and_assoc]
  | [x], _ :: _ :: _, _, _, h, _, _ => by simp at h
  | [x], [], _, _, h, _, _ => by simp at h
  | _ :: _ :: _, [_], _, _, h, _, _ => by simp at h
  | _ :: _ :: _, [], _, _, h, _, _ => by simp at h
theorem run_part_val {P : Program} {w : World} {f : Nat} {t : TypeId} {ds : List TypeDesc} (hs : shp P f t = some ds) (hn : ((P.info? t).map (·.size) == some ds.length && !ds.isEmpty) = true) {cs : List Value} {off : Nat} (hl : off + ds.length ≤ cs.length) :
    (part t cs.toArray off).run P w = .ok (valOf P t ((cs.drop off).take ds.length)) w := by
  simp only [Bool.and_eq_true, beq_iff_eq, Bool.not_eq_true'] at hn
  cases f with
  | zero => simp [shp] at hs
  | succ f =>
    unfold shp at hs
    have one : ∀ {d : TypeDesc}, P.underlying t = some d → aggB P t = false → ds.length = 1 → valOf P t ((cs.drop off).take ds.length) = ((cs.drop off).take 1).headD default → (part t cs.toArray off).run P w = .ok (valOf P t ((cs.drop off).take ds.length)) w := fun hu ha h1 hv => by
      rw [hv]
      have hlt : off < cs.length := by omega
      simp only [part, Sem.run_bind, run_isAgg (by rw [hu]; rfl) ha, Result.andThen]
      have hg : cs.toArray[off]? = some cs[off] := by simp [hlt]
      have hd : ((cs.drop off).take 1).headD default = cs[off] := by
        rw [List.drop_eq_getElem_cons hlt]; rfl
      rw [hd]
      simp [hg, pure]
    split at hs
    · rename_i fs hu
      have ha : aggB P t = true := by unfold aggB; rw [hu]
      have hv : valOf P t ((cs.drop off).take ds.length) = .agg ((cs.drop off).take ds.length).toArray := by unfold valOf; rw [hu]
      rw [hv]
      simp only [part, Sem.run_bind, run_isAgg (by rw [hu]; rfl) ha, run_sizeOf hn.1, Result.andThen, if_true, pure, Sem.run]
      congr 2
      simp
    · rename_i hu
      cases hs
      exact one hu (by unfold aggB; rw [hu]) rfl (by unfold valOf; rw [hu]; rfl)
    · rename_i hu
      cases hs
      exact one hu (by unfold aggB; rw [hu]) rfl (by unfold valOf; rw [hu]; rfl)
    · rename_i hu
      cases hs
      exact one hu (by unfold aggB; rw [hu]) rfl (by unfold valOf; rw [hu]; rfl)
    · cases hs
theorem run_eqF {P : Program} {w : World} {f d : Nat} (ih : ∀ (t : TypeId) ds, shp P f t = some ds → ∀ xs ys, fitAll ds xs = true → fitAll ds ys = true → (Op.equalIn d t (valOf P t xs) (valOf P t ys)).run P w = .ok (eqAll xs ys) w) :
    ∀ (fs : List Field) (pos : Nat) (ds : List TypeDesc) (as bs : List Value), shpF P (shp P f) pos fs = some ds → fitAll ds (as.drop pos) = true → fitAll ds (bs.drop pos) = true →
    (Op.eqFields d as.toArray bs.toArray fs).run P w = .ok (eqAll (as.drop pos) (bs.drop pos)) w
  | [], pos, ds, as, bs, h, h1, h2 => by
    simp only [shpF, Option.some.injEq] at h
    subst h
    have e1 := fitAll_len h1
    have e2 := fitAll_len h2
    rw [List.eq_nil_of_length_eq_zero e1, List.eq_nil_of_length_eq_zero e2]
    rfl
  | x :: fs, pos, ds, as, bs, h, h1, h2 => by
    unfold shpF at h
    split at h
    · rename_i ds0 hnm hof hg
      split at h
      · rename_i hsz
        cases hr : shpF P (shp P f) (pos + ds0.length) fs with
        | none => rw [hr] at h; cases h
        | some r =>
          rw [hr] at h
          simp only [Option.some.injEq] at h
          subst h
          have ho := Nat.eq_of_beq_eq_true hof
          obtain ⟨a1, a2⟩ := fitAll_app h1
          obtain ⟨b1, b2⟩ := fitAll_app h2
          rw [List.drop_drop] at a2 b2
          have la := fitAll_len h1
          have lb := fitAll_len h2
          simp only [List.length_append, List.length_drop] at la lb
          have hne : ds0 ≠ [] := by
            simp only [Bool.and_eq_true, Bool.not_eq_true', List.isEmpty_eq_false_iff] at hsz
            exact hsz.2
          have hpos : 0 < ds0.length := List.length_pos_iff.2 hne
          have pa := run_part_val (w := w) hg hsz (cs := as) (off := x.offset) (by omega)
          have pb := run_part_val (w := w) hg hsz (cs := bs) (off := x.offset) (by omega)
          rw [ho] at pa pb
          have he := ih x.type ds0 hg _ _ a1 b1
          have ihr := run_eqF ih fs (pos + ds0.length) r as bs hr a2 b2
          have hn : x.name ≠ "_" := by simpa using hnm
          have hsplit : eqAll (as.drop pos) (bs.drop pos) = (eqAll ((as.drop pos).take ds0.length) ((bs.drop pos).take ds0.length) && eqAll (as.drop (pos + ds0.length)) (bs.drop (pos + ds0.length))) := by
            have e1 : as.drop pos = (as.drop pos).take ds0.length ++ as.drop (pos + ds0.length) := by rw [← List.drop_drop, List.take_append_drop]
            have e2 : bs.drop pos = (bs.drop pos).take ds0.length ++ bs.drop (pos + ds0.length) := by rw [← List.drop_drop, List.take_append_drop]
            conv => { lhs; rw [e1, e2] }
            exact eqAll_app (by simp; omega) (by intro h; have h3 := congrArg List.length h; rw [List.length_take, List.length_drop, List.length_nil] at h3; omega) (by simp; omega)
          simp only [Op.eqFields, ne_eq, hn, not_false_eq_true, if_true, Sem.run_bind, ho, pa, pb, he, Result.andThen]
          rw [hsplit]
          cases hq : eqAll ((as.drop pos).take ds0.length) ((bs.drop pos).take ds0.length) with
          | true => simp only [Bool.not_true, Bool.false_eq_true, if_false, ihr, Bool.true_and]
          | false => simp only [Bool.not_false, if_true, pure, Sem.run, Bool.false_and]
      · cases h
    · cases h
theorem run_eqS {P : Program} {w : World} : ∀ (f : Nat) (t : TypeId) (ds : List TypeDesc), shp P f t = some ds → ∀ (d : Nat), f ≤ d → ∀ xs ys, fitAll ds xs = true → fitAll ds ys = true →
    (Op.equalIn d t (valOf P t xs) (valOf P t ys)).run P w = .ok (eqAll xs ys) w
  | 0, t, ds, h => by simp [shp] at h
  | f + 1, t, ds, h => by
    intro d hd xs ys h1 h2
    obtain ⟨d, rfl⟩ : ∃ k, d = k + 1 := ⟨d - 1, by omega⟩
    unfold shp at h
    have one : ∀ {de : TypeDesc}, P.underlying t = some de → ds = [de] → (∀ zs : List Value, valOf P t zs = zs.headD default) → (Op.equalIn (d + 1) t (valOf P t xs) (valOf P t ys)).run P w = .ok (eqAll xs ys) w := fun hu hds hv => by
      subst hds
      have l1 := fitAll_len h1
      have l2 := fitAll_len h2
      match xs, ys, l1, l2 with
      | [x], [y], _, _ =>
        rw [hv, hv]
        simp only [fitAll, Bool.and_true] at h1 h2
        exact run_eq_fit hu h1 h2
    split at h
    · rename_i fs hu
      split at h
      · cases h
      · rename_i hh
        have hv : ∀ zs, valOf P t zs = .agg zs.toArray := fun zs => by unfold valOf; rw [hu]
        have hfs : P.fieldsOf t = fs := by unfold Program.fieldsOf; rw [hu]
        rw [hv, hv, run_equalIn_struct w d t _ _ (by rw [hfs]; exact hu) (by simpa using hh), hfs]
        have := run_eqF (w := w) (f := f) (d := d) (fun t' ds' h' xs' ys' a b => run_eqS f t' ds' h' d (by omega) xs' ys' a b) fs.toList 0 ds xs ys h (by simpa using h1) (by simpa using h2)
        simpa using this
    · rename_i hu
      cases h
      exact one hu rfl fun zs => by unfold valOf; rw [hu]
    · rename_i hu
      cases h
      exact one hu rfl fun zs => by unfold valOf; rw [hu]
    · rename_i hu
      cases h
      exact one hu rfl fun zs => by unfold valOf; rw [hu]
    · cases h

class TySh (P : Program) (t : TypeId) (ds : outParam (List TypeDesc)) : Prop where
  guard : P.eqGuardType P.depth t = false
  held : P.stoodInHeld t = false
  und : P.underlying t = some (.struct (P.fieldsOf t))
  shape : shp P 8 t = some ds
section
variable {P : Program} {E : Env} {kd : Bool} {t : Tm} {H : Hp} {ty : TypeId}
theorem ov_eqsh {x y : Operand} {xt yt : TypeId} {xs ys : List Value} {ds : List TypeDesc} [TySh P xt ds] (hx : ev t x = some (.agg xs.toArray)) (hy : ev t y = some (.agg ys.toArray))
    (h1 : fitAll ds xs = true) (h2 : fitAll ds ys = true) : OpV P E (.binOp .eql xt x y yt) ty t H (.bool (eqAll xs ys)) := by
  refine ov_of fun a w ht hh o ho _ => ⟨_, by simp only [execOp, ho]; rfl, ?_⟩
  have hg := TySh.guard (P := P) (t := xt)
  have hu := TySh.und (P := P) (t := xt)
  have hps := TySh.shape (P := P) (t := xt)
  have hv : ∀ zs, valOf P xt zs = .agg zs.toArray := fun zs => by unfold valOf; rw [hu]
  rw [ev_eval ht hx, ev_eval ht hy, Sem.run_bind, run_eqGuard_agg w _ _ _ _ _ _ hg]
  simp only [Result.andThen]
  have := run_eqS (w := w) 8 xt ds hps 10000 (by omega) xs ys h1 h2
  rw [hv, hv] at this
  rw [run_eql_struct, this]
  rfl
theorem ov_neqsh {x y : Operand} {xt yt : TypeId} {xs ys : List Value} {ds : List TypeDesc} [TySh P xt ds] (hx : ev t x = some (.agg xs.toArray)) (hy : ev t y = some (.agg ys.toArray))
    (h1 : fitAll ds xs = true) (h2 : fitAll ds ys = true) : OpV P E (.binOp .neq xt x y yt) ty t H (.bool (!(eqAll xs ys))) := by
  refine ov_of fun a w ht hh o ho _ => ⟨_, by simp only [execOp, ho]; rfl, ?_⟩
  have hg := TySh.guard (P := P) (t := xt)
  have hu := TySh.und (P := P) (t := xt)
  have hps := TySh.shape (P := P) (t := xt)
  have hv : ∀ zs, valOf P xt zs = .agg zs.toArray := fun zs => by unfold valOf; rw [hu]
  rw [ev_eval ht hx, ev_eval ht hy, Sem.run_bind, run_eqGuard_agg w _ _ _ _ _ _ hg]
  simp only [Result.andThen]
  have := run_eqS (w := w) 8 xt ds hps 10000 (by omega) xs ys h1 h2
  rw [hv, hv] at this
  rw [run_neq_struct, this]
  rfl
end

/-! Texts in order. -/
theorem ov_sleq {P : Program} {E : Env} {t : Tm} {H : Hp} {ty : TypeId} {x y : Operand} {xt yt : TypeId} {p q : List UInt8} (hx : ev t x = some (S p)) (hy : ev t y = some (S q)) : OpV P E (.binOp .leq xt x y yt) ty t H (.bool (Op.bytesLess p q || p == q)) :=
  ov_str hx hy fun w => by simp [binOp, Op.stringOp, pure]
end Sx
end Go.Proofs.Ytpenogailhlcaaa
