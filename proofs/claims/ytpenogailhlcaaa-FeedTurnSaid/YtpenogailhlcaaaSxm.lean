/- What operations on memory of the call's own yield in the symbolic walk, over whatever program; conditions: none. -/
import Derived.Test.YtpenogailhlcaaaSxv
namespace Go.Proofs.Ytpenogailhlcaaa
namespace Sx
open Go Go.RowKit
set_option linter.unusedSimpArgs false

/-- A struct's type: where its parts lie, and how long they are. -/
class TyS (P : Program) (t : TypeId) (pl : outParam (List (Nat × Nat))) : Prop where
  fields : ∃ fs : Array Field, P.underlying t = some (.struct fs) ∧ ∀ w, (fs.mapM fun f => do pure (f.offset, ← sizeOf f.type) : Sem (Array (Nat × Nat))).run P w = .ok pl.toArray w
/-- A field of a struct's type: its type, and where it lies. -/
class TyF (P : Program) (t : TypeId) (f : Nat) (ft : outParam TypeId) (off : outParam Nat) : Prop where
  field : ∃ fs : Array Field, ∃ fl : Field, P.underlying t = some (.struct fs) ∧ fs[f]? = some fl ∧ fl.type = ft ∧ fl.offset = off ∧ ∃ m, (P.info? ft).map (·.size) = some (m + 1)
/-- An array's type. -/
class TyArr (P : Program) (t : TypeId) (len : outParam Nat) (e : outParam TypeId) : Prop where
  arr : P.underlying t = some (.array len e)

section
variable {P : Program} {E : Env} {t : Tm} {H : Hp} {ty : TypeId}

theorem run_sizeOf {t : TypeId} {n : Nat} (h : (P.info? t).map (·.size) = some n) (w : World) : (sizeOf t).run P w = .ok n w := by
  cases hi : P.info? t with
  | none => rw [hi] at h; cases h
  | some i =>
    rw [hi] at h
    simp only [Option.map_some, Option.some.injEq] at h
    simp [sizeOf, typeInfo, program, Sem.run, pure, hi, h, Result.andThen]

theorem run_isAgg {t : TypeId} {b : Bool} (h0 : (P.underlying t).isSome = true) (h : aggB P t = b) (w : World) : (isAgg t).run P w = .ok b w := by
  cases hu : P.underlying t with
  | none => rw [hu] at h0; cases h0
  | some d =>
    unfold aggB at h
    rw [hu] at h
    simp only [isAgg, Sem.run_bind, run_underlying hu, Result.andThen]
    cases d <;> simp_all [pure, Sem.run]

theorem und_of_aggB {t : TypeId} (h : aggB P t = false) : (P.underlying t).isSome = true := by
  unfold aggB at h
  cases hu : P.underlying t with
  | none => rw [hu] at h; cases h
  | some d => rfl

theorem cell_of {w : World} {b off : Nat} {cs : List Value} {e : TypeId} {fz : Nat × Nat} (h : w.heap[b]? = some (.cells cs.toArray e fz)) : w.cell? ⟨b, off, none⟩ = cs[off]? := by
  simp [World.cell?, h]

theorem run_loadCellsFrom {w : World} {b off : Nat} : ∀ (n i : Nat) (acc : Array Value) (vs : List Value), vs.length = n → (∀ j v, vs[j]? = some v → w.cell? ⟨b, off + i + j, none⟩ = some v) →
    (loadCellsFrom ⟨b, off, none⟩ i n acc).run P w = .ok (acc ++ vs.toArray) w
  | 0, i, acc, vs, hl, _ => by
    have : vs = [] := List.eq_nil_of_length_eq_zero hl
    subst this
    simp [loadCellsFrom, pure, Sem.run]
  | n + 1, i, acc, vs, hl, h => by
    cases vs with
    | nil => simp at hl
    | cons v vs =>
      have h0 := h 0 v rfl
      have ha : (⟨b, off, none⟩ : Addr).add i = ⟨b, off + i, none⟩ := by
        unfold Addr.add
        by_cases e : i = 0
        · rw [if_pos e]; subst e; rfl
        · rw [if_neg e]
      have hr : (load ((⟨b, off, none⟩ : Addr).add i)).run P w = .ok v w := by
        rw [ha]; simp only [load, Sem.run]; rw [show off + i = off + i + 0 from rfl, h0]
      unfold loadCellsFrom
      rw [Sem.run_bind, hr]
      have := run_loadCellsFrom n (i + 1) (acc.push v) vs (by simpa using hl) (fun j u hj => by
        have := h (j + 1) u (by simpa using hj)
        rw [show off + (i + 1) + j = off + i + (j + 1) by omega]
        exact this)
      simp only [Result.andThen]
      rw [this]
      simp

theorem run_load_cell {w : World} {lt : TypeId} {b off : Nat} {v : Value} [TyC P lt] (h : w.cell? ⟨b, off, none⟩ = some v) : (Instr.loadAt lt (.pointer (some ⟨b, off, none⟩))).run P w = .ok v w := by
  have h1 := TyC.agg (P := P) (t := lt)
  simp only [Instr.loadAt, Instr.sureAddr, Sem.run_bind, pure, Sem.run, Result.andThen, loadVar, run_isAgg (und_of_aggB h1) h1]
  simp [load, Sem.run, h]

theorem run_load_agg {w : World} {lt : TypeId} {n b off : Nat} {vs : List Value} [TyA P lt n] (hl : vs.length = n) (h : ∀ j v, vs[j]? = some v → w.cell? ⟨b, off + j, none⟩ = some v) :
    (Instr.loadAt lt (.pointer (some ⟨b, off, none⟩))).run P w = .ok (.agg vs.toArray) w := by
  have h1 := TyA.agg (P := P) (t := lt)
  have h2 := TyA.size (P := P) (t := lt)
  simp only [Instr.loadAt, Instr.sureAddr, Sem.run_bind, pure, Sem.run, Result.andThen, loadVar, run_isAgg h1.1 h1.2]
  simp only [if_true, Sem.run_bind, run_sizeOf h2, Result.andThen, loadCells]
  rw [run_loadCellsFrom n 0 #[] vs hl (fun j v hj => by simpa using h j v hj)]
  simp [pure, Sem.run]

/-- A load of one cell of a block of the call's own. -/
theorem ov_load {x : Operand} {lt : TypeId} {b off : Nat} {cs : List Value} {e : TypeId} {fz : Nat × Nat} {v : Value} [TyC P lt] (hx : ev t x = some (.pointer (some ⟨b, off, none⟩)))
    (hb : Has H b (.cells cs.toArray e fz)) (hc : cs[off]? = some v) : OpV P E (.load lt x) ty t H v := by
  refine ov_of fun a w ht hh o ho _ => ⟨_, by simp only [execOp, ho]; rfl, ?_⟩
  rw [ev_eval ht hx]
  exact run_load_cell (by rw [cell_of (hh.has hb).2, hc])
/-- A load of a struct or an array out of a block of the call's own. -/
theorem ov_loada {x : Operand} {lt : TypeId} {n b off : Nat} {cs vs : List Value} {e : TypeId} {fz : Nat × Nat} [TyA P lt n] (hx : ev t x = some (.pointer (some ⟨b, off, none⟩)))
    (hb : Has H b (.cells cs.toArray e fz)) (hs : sl off n cs = some vs) : OpV P E (.load lt x) ty t H (.agg vs.toArray) := by
  obtain ⟨hv, hl⟩ := sl_spec _ _ _ _ hs
  refine ov_of fun a w ht hh o ho _ => ⟨_, by simp only [execOp, ho]; rfl, ?_⟩
  rw [ev_eval ht hx]
  refine run_load_agg hl fun j v hj => ?_
  rw [cell_of (hh.has hb).2]
  subst hv
  have hlt := (List.getElem?_eq_some_iff.1 hj).1
  simp only [List.length_take] at hlt
  rw [List.getElem?_take_of_lt (by omega), List.getElem?_drop] at hj
  exact hj

/-! Stores. -/
theorem setCell_heap {w : World} {b off : Nat} {cs : List Value} {e : TypeId} {fz : Nat × Nat} {v : Value} (h : w.heap[b]? = some (.cells cs.toArray e fz)) :
    w.setCell ⟨b, off, none⟩ v = { w with heap := w.heap.setIfInBounds b (.cells (cs.set off v).toArray e fz) } := by
  simp only [World.setCell]
  congr 1
  have hlt := (Array.getElem?_eq_some_iff.1 h).1
  have hb := (Array.getElem?_eq_some_iff.1 h).2
  apply Array.ext_getElem?
  intro i
  rw [Array.getElem?_modify, Array.getElem?_setIfInBounds]
  by_cases e : b = i
  · subst e
    simp [hb, hlt]
  · simp [e]

/-- A value of so many cells, none of them an aggregate. -/
def flat (v : Value) : Bool :=
  match v with
  | .agg _ | .tuple _ => false
  | _ => true

theorem run_store1 {w : World} {b off : Nat} {cs : List Value} {e : TypeId} {v : Value} (h : w.heap[b]? = some (.cells cs.toArray e (0, 0))) (hlt : off < cs.length) (hf : flat v = true) :
    (store ⟨b, off, none⟩ v).run P w = .ok () { w with heap := w.heap.setIfInBounds b (.cells (cs.set off v).toArray e (0, 0)) } := by
  have hc : w.cell? ⟨b, off, none⟩ = some (cs[off]) := by rw [cell_of h]; simp [hlt]
  have hz : w.frozen? ⟨b, off, none⟩ = false := by simp [World.frozen?, h]
  rw [← setCell_heap h]
  cases v <;> simp_all [store, flat, Sem.run]

def setAll : List Value → Nat → List Value → List Value
  | cs, _, [] => cs
  | cs, off, v :: vs => setAll (cs.set off v) (off + 1) vs

theorem setAllO_spec : ∀ (vs cs : List Value) (off : Nat) (ds : List Value), setAllO cs off vs = some ds → (vs = [] ∨ off + vs.length ≤ cs.length) ∧ setAll cs off vs = ds
  | [], cs, off, ds, h => by simp only [setAllO, Option.some.injEq] at h; subst h; exact ⟨.inl rfl, rfl⟩
  | v :: vs, cs, off, ds, h => by
    simp only [setAllO] at h
    cases h1 : setO cs off v with
    | none => rw [h1] at h; cases h
    | some r =>
      rw [h1] at h
      obtain ⟨h2, h3⟩ := setO_spec _ _ _ _ h1
      obtain ⟨h4, h5⟩ := setAllO_spec vs r (off + 1) ds h
      subst h3
      refine ⟨.inr ?_, by simpa [setAll] using h5⟩
      rcases h4 with h4 | h4
      · subst h4; simp; omega
      · simp at h4 ⊢; omega

theorem run_storeCells {b off : Nat} {e : TypeId} : ∀ (vs cs : List Value) (i : Nat) (w : World), w.heap[b]? = some (.cells cs.toArray e (0, 0)) → off + i + vs.length ≤ cs.length → (vs.all flat) = true →
    (storeCells ⟨b, off, none⟩ vs i).run P w = .ok () { w with heap := w.heap.setIfInBounds b (.cells (setAll cs (off + i) vs).toArray e (0, 0)) }
  | [], cs, i, w, h, _, _ => by
    have hlt := (Array.getElem?_eq_some_iff.1 h).1
    have : w.heap.setIfInBounds b (.cells cs.toArray e (0, 0)) = w.heap := by
      apply Array.ext_getElem?
      intro j
      rw [Array.getElem?_setIfInBounds]
      by_cases e : b = j
      · subst e; rw [h]; simp [hlt]
      · simp [e]
    simp only [storeCells, setAll, pure, Sem.run]
    rw [this]
  | v :: vs, cs, i, w, h, hl, hf => by
    simp only [List.all_cons, Bool.and_eq_true] at hf
    simp only [List.length_cons] at hl
    have ha : (⟨b, off, none⟩ : Addr).add i = ⟨b, off + i, none⟩ := by
      unfold Addr.add
      by_cases e : i = 0
      · rw [if_pos e]; subst e; rfl
      · rw [if_neg e]
    have hlt := (Array.getElem?_eq_some_iff.1 h).1
    unfold storeCells
    rw [Sem.run_bind, ha, run_store1 h (by omega) hf.1]
    simp only [Result.andThen]
    rw [run_storeCells (e := e) vs (cs.set (off + i) v) (i + 1) _ (by simp [hlt]) (by simp; omega) hf.2]
    simp only [setAll]
    rw [show off + (i + 1) = off + i + 1 by omega]
    simp

theorem ow_store {x y : Operand} {st : TypeId} {b off : Nat} {cs cs' : List Value} {e : TypeId} {v : Value} [TyC P st] (hx : ev t x = some (.pointer (some ⟨b, off, none⟩))) (hy : ev t y = some v)
    (hb : Has H b (.cells cs.toArray e (0, 0))) (hset : setO cs off v = some cs') (hf : flat v = true) : OpW P E (.store st x y) ty t H b (.cells cs'.toArray e (0, 0)) .skip := by
  intro a w ht hh o ho _
  obtain ⟨hlt, hcs⟩ := setO_spec _ _ _ _ hset
  subst hcs
  have h2 := TyC.size (P := P) (t := st)
  have hc : v.cells = #[v] := by cases v <;> first | rfl | (simp [flat] at hf)
  simp only [execOp, ho, Sem.run_bind, Instr.storeAt, Instr.sureAddr, ev_eval ht hx, ev_eval ht hy, pure, Sem.run, Result.andThen, storeVar, run_sizeOf h2, hc]
  simp only [List.size_toArray, List.length_cons, List.length_nil, Nat.zero_add, ne_eq, not_true_eq_false, if_false]
  rw [run_storeCells [v] cs 0 w (hh.has hb).2 (by simp; omega) (by simp [hf])]
  simp [setAll]
theorem ow_storea {x y : Operand} {st : TypeId} {n b off : Nat} {cs cs' vs : List Value} {e : TypeId} [TyA P st n] (hx : ev t x = some (.pointer (some ⟨b, off, none⟩))) (hy : ev t y = some (.agg vs.toArray))
    (hb : Has H b (.cells cs.toArray e (0, 0))) (hn : Nat.beq vs.length n = true) (hne : vs.isEmpty = false) (hf : vs.all flat = true) (hset : setAllO cs off vs = some cs') :
    OpW P E (.store st x y) ty t H b (.cells cs'.toArray e (0, 0)) .skip := by
  intro a w ht hh o ho _
  obtain ⟨hlt, hcs⟩ := setAllO_spec _ _ _ _ hset
  subst hcs
  have h2 := TyA.size (P := P) (t := st)
  have hn' := Nat.eq_of_beq_eq_true hn
  subst hn'
  simp only [execOp, ho, Sem.run_bind, Instr.storeAt, Instr.sureAddr, ev_eval ht hx, ev_eval ht hy, pure, Sem.run, Result.andThen, storeVar, run_sizeOf h2, Value.cells]
  simp only [List.size_toArray, ne_eq, not_true_eq_false, if_false]
  rw [run_storeCells vs cs 0 w (hh.has hb).2 (by rcases hlt with h | h; (subst h; simp at hne); omega) hf]
  simp

/-! New blocks. -/
theorem on_box {x : Operand} {e : TypeId} {v : Value} (hx : ev t x = some v) : OpN P E (.box e x) ty t H (.cells v.cells e) (fun b => .pointer (some ⟨b, 0, none⟩)) := by
  intro a w ht _ o ho _
  simp only [execOp, ho, ev_eval ht hx, Instr.box, newVar, newRow, newObj, Sem.run_bind, Sem.run, pure, Result.andThen]
  rfl
theorem on_alloc {e : TypeId} {z : Value} [TyZ P e z] : OpN P E (.alloc e) ty t H (.cells z.cells e) (fun b => .pointer (some ⟨b, 0, none⟩)) := by
  intro a w ht _ o ho _
  have hz := TyZ.zero (P := P) (t := e)
  cases hi : P.info? e with
  | none => rw [hi] at hz; cases hz
  | some i =>
    rw [hi] at hz
    simp only [Option.map_some, Option.some.injEq] at hz
    simp only [execOp, ho, Instr.alloc, zeroValue, typeInfo, program, newVar, newRow, newObj, Sem.run_bind, Sem.run, pure, Result.andThen, hi, hz]
    rfl

/-! Structs. -/
def fillL (pl : List (Nat × Nat)) : List Value → List (Nat × Value) → Option (List Value)
  | cs, [] => some cs
  | cs, (i, v) :: rest =>
    match pl[i]? with
    | none => none
    | some (off, size) => bif Nat.beq v.cells.toList.length size && Nat.ble (off + v.cells.toList.length) cs.length then (match setAllO cs off v.cells.toList with | some r => fillL pl r rest | none => none) else none

theorem fold_setAll : ∀ (vs cs : List Value) (off k : Nat), ((vs.zipIdx k).foldl (fun cs (c, j) => cs.setIfInBounds (off + j) c) cs.toArray) = (setAll cs (off + k) vs).toArray
  | [], cs, off, k => rfl
  | v :: vs, cs, off, k => by
    simp only [List.zipIdx_cons, List.foldl_cons, setAll]
    have := fold_setAll vs (cs.set (off + k) v) off (k + 1)
    simpa [Nat.add_assoc] using this

theorem fill_of {pl : List (Nat × Nat)} : ∀ (vs : List (Nat × Value)) (cs ds : List Value), fillL pl cs vs = some ds → Instr.fill (fun i => pl[i]?) cs.toArray vs = some ds.toArray
  | [], cs, ds, h => by
    simp only [fillL, Option.some.injEq] at h
    subst h
    rfl
  | (i, v) :: vs, cs, ds, h => by
    simp only [fillL] at h
    unfold Instr.fill
    cases hp : pl[i]? with
    | none => rw [hp] at h; cases h
    | some x =>
      obtain ⟨off, size⟩ := x
      rw [hp] at h
      simp only at h
      cases hb : (Nat.beq v.cells.toList.length size && Nat.ble (off + v.cells.toList.length) cs.length) with
      | false => rw [hb] at h; cases h
      | true =>
        rw [hb] at h
        simp only [cond_true] at h
        simp only [Bool.and_eq_true, Nat.ble_eq] at hb
        have h1 := Nat.eq_of_beq_eq_true hb.1
        simp only [Array.length_toList] at h1 hb
        have hc : ¬ ((decide (v.cells.size ≠ size) || decide (off + v.cells.size > cs.toArray.size)) = true) := by
          simp [h1]
          have := hb.2
          omega
        simp only []
        rw [if_neg hc]
        have hf := fold_setAll v.cells.toList cs off 0
        have hz : v.cells.zipIdx.foldl (fun cs (c, j) => cs.setIfInBounds (off + j) c) cs.toArray = (setAll cs off v.cells.toList).toArray := by
          rw [← Array.foldl_toList, Array.toList_zipIdx]
          simpa using hf
        rw [hz]
        cases hs : setAllO cs off v.cells.toList with
        | none => rw [hs] at h; cases h
        | some r =>
          rw [hs] at h
          rw [(setAllO_spec _ _ _ _ hs).2]
          exact fill_of vs r ds h

theorem ov_build {bt : TypeId} {ps : List (Nat × Operand)} {vs : List (Nat × Value)} {zs cs : List Value} {pl : List (Nat × Nat)} [TyS P bt pl] [TyZ P bt (.agg zs.toArray)]
    (hv : evP t ps = some vs) (hf0 : fillL pl zs vs = some cs) : OpV P E (.build bt ps.toArray) ty t H (.agg cs.toArray) := by
  refine ov_of fun a w ht hh o ho _ => ⟨_, by simp only [execOp, ho]; rfl, ?_⟩
  have hz := TyZ.zero (P := P) (t := bt)
  obtain ⟨fs, hu, hm⟩ := TyS.fields (P := P) (t := bt)
  have he := evP_eval ht ps vs hv
  have hf := fill_of vs zs cs hf0
  cases hi : P.info? bt with
  | none => rw [hi] at hz; cases hz
  | some i =>
    rw [hi] at hz
    simp only [Option.map_some, Option.some.injEq] at hz
    have hpl : (fun x : Nat => (pl.toArray)[x]?) = fun i => pl[i]? := by funext i; simp
    simp only [Instr.build, zeroValue, typeInfo, program, Sem.run_bind, Sem.run, pure, Result.andThen, hi, hz, run_underlying hu, hm, Value.cells]
    rw [List.map_toArray, he]
    have hm' := hm w
    simp only [pure] at hm'
    simp only [hm', hpl, hf]
    simp [pure, Sem.run]

theorem run_part_cell {w : World} {pt : TypeId} {cs : List Value} {off : Nat} {v : Value} [TyC P pt] (h : cs[off]? = some v) : (part pt cs.toArray off).run P w = .ok v w := by
  have h1 := TyC.agg (P := P) (t := pt)
  simp only [part, Sem.run_bind, run_isAgg (und_of_aggB h1) h1, Result.andThen]
  simp [h, pure, Sem.run]
theorem run_part_agg {w : World} {pt : TypeId} {cs : List Value} {off n : Nat} [TyA P pt n] : (part pt cs.toArray off).run P w = .ok (.agg ((cs.drop off).take n).toArray) w := by
  have h1 := TyA.agg (P := P) (t := pt)
  have h2 := TyA.size (P := P) (t := pt)
  simp only [part, Sem.run_bind, run_isAgg h1.1 h1.2, Result.andThen, if_true, run_sizeOf h2]
  simp [pure, Sem.run]

theorem ov_field {x : Operand} {xt ft : TypeId} {f off : Nat} {cs : List Value} {v : Value} [TyF P xt f ft off] [TyC P ft] (hx : ev t x = some (.agg cs.toArray)) (hv : cs[off]? = some v) : OpV P E (.field xt x f) ty t H v := by
  refine ov_of fun a w ht hh o ho _ => ⟨_, by simp only [execOp, ho]; rfl, ?_⟩
  obtain ⟨fs, fl, hu, hf, e1, e2, _⟩ := TyF.field (P := P) (t := xt) (f := f)
  subst e1 e2
  rw [ev_eval ht hx]
  simp only [Instr.field, Sem.run_bind, run_underlying hu, Result.andThen, hf, asAgg, pure, Sem.run]
  exact run_part_cell hv
theorem ov_fielda {x : Operand} {xt ft : TypeId} {f off n : Nat} {cs vs : List Value} [TyF P xt f ft off] [TyA P ft n] (hx : ev t x = some (.agg cs.toArray)) (hs : sl off n cs = some vs) : OpV P E (.field xt x f) ty t H (.agg vs.toArray) := by
  obtain ⟨hv, -⟩ := sl_spec _ _ _ _ hs
  refine ov_of fun a w ht hh o ho _ => ⟨_, by simp only [execOp, ho]; rfl, ?_⟩
  obtain ⟨fs, fl, hu, hf, e1, e2, _⟩ := TyF.field (P := P) (t := xt) (f := f)
  subst e1 e2 hv
  rw [ev_eval ht hx]
  simp only [Instr.field, Sem.run_bind, run_underlying hu, Result.andThen, hf, asAgg, pure, Sem.run]
  exact run_part_agg

theorem add_off (b off n : Nat) : (⟨b, off, none⟩ : Addr).add n = ⟨b, off + n, none⟩ := by
  unfold Addr.add
  by_cases e : n = 0
  · rw [if_pos e]; subst e; rfl
  · rw [if_neg e]

theorem ov_fieldAddr {x : Operand} {xt ft : TypeId} {f off b o1 : Nat} [TyF P xt f ft off] (hx : ev t x = some (.pointer (some ⟨b, o1, none⟩))) : OpV P E (.fieldAddr xt x f) ty t H (.pointer (some ⟨b, o1 + off, none⟩)) := by
  refine ov_of fun a w ht hh o ho _ => ⟨_, by simp only [execOp, ho]; rfl, ?_⟩
  obtain ⟨fs, fl, hu, hf, e1, e2, m, e3⟩ := TyF.field (P := P) (t := xt) (f := f)
  subst e1 e2
  rw [ev_eval ht hx]
  have h0 : ¬ m + 1 = 0 := by omega
  simp only [Instr.fieldAt, Sem.run_bind, run_underlying hu, Result.andThen, hf, Instr.sureAddr, pure, Sem.run, fieldPlace, run_sizeOf e3, h0, if_false, add_off]

theorem ov_arrAddr {x y : Operand} {xt e : TypeId} {len b o1 n : Nat} {k : IntKind} {i : Int} {j : Nat} [TyArr P xt len e] (hs : (P.info? e).map (·.size) = some n) (hx : ev t x = some (.pointer (some ⟨b, o1, none⟩))) (hy : ev t y = some (.int k i))
    (hi : i = (j : Int)) (hj : j < len) : OpV P E (.indexAddr xt x y) ty t H (.pointer (some ⟨b, o1 + j * n, none⟩)) := by
  subst hi
  refine ov_of fun a w ht hh o ho _ => ⟨_, by simp only [execOp, ho]; rfl, ?_⟩
  have hu := TyArr.arr (P := P) (t := xt)
  rw [ev_eval ht hx, ev_eval ht hy]
  have hc : (0 : Int) ≤ (j : Int) ∧ (j : Int) < (len : Int) := ⟨by omega, by omega⟩
  simp only [Instr.indexAt, asIntOf, Sem.run_bind, run_underlying hu, Result.andThen, Instr.sureAddr, pure, Sem.run, hc, and_self, if_true, run_sizeOf hs, Int.toNat_natCast, add_off]

theorem ov_arrAddr_s {x y : Operand} {xt e : TypeId} {len b o1 n : Nat} {k : IntKind} {i : Int} [TyArr P xt len e] [TyA P e n] (hx : ev t x = some (.pointer (some ⟨b, o1, none⟩))) (hy : ev t y = some (.int k i))
    (h0 : 0 ≤ i) (h1 : i < (len : Int)) : OpV P E (.indexAddr xt x y) ty t H (.pointer (some ⟨b, o1 + i.toNat * n, none⟩)) :=
  ov_arrAddr (TyA.size (P := P) (t := e)) hx hy (j := i.toNat) (by omega) (by omega)
theorem ov_arrAddr_c {x y : Operand} {xt e : TypeId} {len b o1 n : Nat} {k : IntKind} {i : Int} [TyArr P xt len e] [TyA P e n] (hx : ev t x = some (.pointer (some ⟨b, o1, none⟩))) (hy : ev t y = some (.int k i))
    (h0 : decide (0 ≤ i) = true) (h1 : Nat.blt i.toNat len = true) : OpV P E (.indexAddr xt x y) ty t H (.pointer (some ⟨b, o1 + i.toNat * n, none⟩)) := by
  have h0' : 0 ≤ i := of_decide_eq_true h0
  exact ov_arrAddr (TyA.size (P := P) (t := e)) hx hy (j := i.toNat) (by omega) (by simpa [Nat.blt_eq] using h1)
theorem ov_arrAddr_cc {x y : Operand} {xt e : TypeId} {len b o1 : Nat} {k : IntKind} {i : Int} [TyArr P xt len e] [TyC P e] (hx : ev t x = some (.pointer (some ⟨b, o1, none⟩))) (hy : ev t y = some (.int k i))
    (h0 : decide (0 ≤ i) = true) (h1 : Nat.blt i.toNat len = true) : OpV P E (.indexAddr xt x y) ty t H (.pointer (some ⟨b, o1 + i.toNat * 1, none⟩)) := by
  have h0' : 0 ≤ i := of_decide_eq_true h0
  exact ov_arrAddr (TyC.size (P := P) (t := e)) hx hy (j := i.toNat) (by omega) (by simpa [Nat.blt_eq] using h1)
end
end Sx
end Go.Proofs.Ytpenogailhlcaaa
