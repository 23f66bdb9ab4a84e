/- Calls, equality of structs, a range over a string, in the symbolic walk, over whatever program; conditions: none. -/
import Derived.Test.YtpenogailhlcaaaSxm
namespace Go.Proofs.Ytpenogailhlcaaa
namespace Sx
open Go Go.RowKit
set_option linter.unusedSimpArgs false

/-- A function with a body. -/
class FnB (P : Program) (f : FuncId) : Prop where
  fn : ∃ fn, P.funcs[f]? = some fn ∧ (fn.name == "runtime.NumGoroutine") = false ∧ fn.body.isNone = false

/-- A struct's type, each of its parts one cell of an integer's, a bool's or a string's kind. -/
class TyEq (P : Program) (t : TypeId) (ds : outParam (List TypeDesc)) : Prop where
  guard : P.eqGuardType P.depth t = false
  held : P.stoodInHeld t = false
  und : P.underlying t = some (.struct (P.fieldsOf t))
  parts : (P.fieldsOf t).toList.map (fun f => (f.name == "_", f.offset, P.underlying f.type, aggB P f.type)) = ds.zipIdx.map (fun x => (false, x.2, some x.1, false))

def eqB : Value → Value → Bool
  | .string a, .string b => a.data.toList == b.data.toList
  | .int _ a, .int _ b => a == b
  | .bool a, .bool b => a == b
  | _, _ => false
def fitB : TypeDesc → Value → Bool
  | .string, .string _ => true
  | .int k, .int k' _ => k == k'
  | .bool, .bool _ => true
  | _, _ => false
def eqAll : List Value → List Value → Bool
  | [x], [y] => eqB x y
  | x :: xs, y :: ys => eqB x y && eqAll xs ys
  | _, _ => true
def fitAll : List TypeDesc → List Value → Bool
  | [], [] => true
  | d :: ds, x :: xs => fitB d x && fitAll ds xs
  | _, _ => false

section
variable {P : Program} {E : Env} {t : Tm} {H : Hp} {ty : TypeId}

theorem oc_func {f : FuncId} {xs : List Operand} {ats : Array TypeId} {vs : List Value} [FnB P f] (hv : evL t xs = some vs) : OpCall P E (.call ⟨.value (.func f), xs.toArray, ats⟩) ty t f vs.toArray := by
  intro a w ht o ho _
  obtain ⟨fn, hf, hn, hb⟩ := FnB.fn (P := P) (f := f)
  have he := evL_eval ht xs vs hv
  simp only [execOp, ho, resolve, Act.eval, Deferred.ofValue, Sem.run_bind, Sem.run, pure, Result.andThen, invoke, callFunc, program, hf, hn, hb, List.map_toArray, he]
  simp [Sem.run, pure]

theorem run_eq_fit {w : World} {d : Nat} {ft : TypeId} {desc : TypeDesc} {x y : Value} (h3 : P.underlying ft = some desc) (hx : fitB desc x = true) (hy : fitB desc y = true) :
    (Op.equalIn (d + 1) ft x y).run P w = .ok (eqB x y) w := by
  unfold fitB at hx hy
  split at hx
  · split at hy
    · rw [run_equalIn_string w d ft _ _ h3]
      simp [eqB, ByteArray.toList_eq]
    all_goals first | (exfalso; simp at *; done) | contradiction
  · split at hy
    · contradiction
    · rename_i h; cases h
      have e1 := eq_of_beq hx
      have e2 := eq_of_beq hy
      subst e1
      subst e2
      rw [run_equalIn_int w d ft _ _ _ _ h3]
      simp [eqB]
    · contradiction
    · cases hy
  · split at hy
    · contradiction
    · contradiction
    · rw [run_equalIn_bool' w d ft _ _ h3]
      simp [eqB]
    · cases hy
  · cases hx

theorem run_eqFields {w : World} {d : Nat} : ∀ (fs : List Field) (ds : List TypeDesc) (k : Nat) (xs ys : List Value) (as bs : List Value),
    fs.map (fun f => (f.name == "_", f.offset, P.underlying f.type, aggB P f.type)) = (ds.zipIdx k).map (fun x => (false, x.2, some x.1, false)) → fitAll ds xs = true → fitAll ds ys = true →
    as.drop k = xs → bs.drop k = ys → (Op.eqFields (d + 1) as.toArray bs.toArray fs).run P w = .ok (eqAll xs ys) w
  | [], [], k, xs, ys, as, bs, _, hx, hy, _, _ => by
    cases xs with
    | nil => cases ys with
      | nil => rfl
      | cons y ys => simp [fitAll] at hy
    | cons x xs => simp [fitAll] at hx
  | [], _ :: _, _, _, _, _, _, h, _, _, _, _ => by simp at h
  | _ :: _, [], _, _, _, _, _, h, _, _, _, _ => by simp at h
  | f :: fs, t :: ds, k, [], ys, as, bs, h, hx, hy, ha, hb => by simp [fitAll] at hx
  | f :: fs, t :: ds, k, x :: xs, [], as, bs, h, hx, hy, ha, hb => by simp [fitAll] at hy
  | f :: fs, t :: ds, k, x :: xs, y :: ys, as, bs, h, hx, hy, ha, hb => by
    simp only [List.map_cons, List.zipIdx_cons, List.cons.injEq, Prod.mk.injEq] at h
    obtain ⟨⟨h1, h2, h3, h4⟩, h5⟩ := h
    simp only [fitAll, Bool.and_eq_true] at hx hy
    have hak : as[k]? = some x := by
      have := congrArg (fun l => l[0]?) ha
      simpa using this
    have hbk : bs[k]? = some y := by
      have := congrArg (fun l => l[0]?) hb
      simpa using this
    have ha' : as.drop (k + 1) = xs := by rw [← List.drop_drop, ha]; rfl
    have hb' : bs.drop (k + 1) = ys := by rw [← List.drop_drop, hb]; rfl
    have hpa : (part f.type as.toArray f.offset).run P w = .ok x w := by
      simp only [part, Sem.run_bind, run_isAgg (und_of_aggB h4) h4, Result.andThen, h2]
      simp [hak, pure, Sem.run]
    have hpb : (part f.type bs.toArray f.offset).run P w = .ok y w := by
      simp only [part, Sem.run_bind, run_isAgg (und_of_aggB h4) h4, Result.andThen, h2]
      simp [hbk, pure, Sem.run]
    have he := run_eq_fit (w := w) (d := d) h3 hx.1 hy.1
    have ih := run_eqFields (w := w) (d := d) fs ds (k + 1) xs ys as bs h5 hx.2 hy.2 ha' hb'
    have hn : f.name ≠ "_" := by simpa using h1
    simp only [Op.eqFields, ne_eq, hn, not_false_eq_true, if_true, Sem.run_bind, hpa, hpb, he, Result.andThen]
    cases hq : eqB x y with
    | true =>
      simp only [Bool.not_true, Bool.false_eq_true, if_false, ih]
      cases xs with
      | nil => cases ys with
        | nil => simp [eqAll, hq]
        | cons _ _ => cases ds <;> simp [fitAll] at hx hy
      | cons _ _ => cases ys with
        | nil => cases ds <;> simp [fitAll] at hx hy
        | cons _ _ => simp [eqAll, hq]
    | false =>
      simp only [Bool.not_false, if_true, pure, Sem.run]
      cases xs with
      | nil => cases ys with
        | nil => simp [eqAll, hq]
        | cons _ _ => cases ds <;> simp [fitAll] at hx hy
      | cons _ _ => cases ys with
        | nil => cases ds <;> simp [fitAll] at hx hy
        | cons _ _ => simp [eqAll, hq]

theorem ov_eqs {x y : Operand} {xt yt : TypeId} {xs ys : List Value} {ds : List TypeDesc} [TyEq P xt ds] (hx : ev t x = some (.agg xs.toArray)) (hy : ev t y = some (.agg ys.toArray))
    (h1 : fitAll ds xs = true) (h2 : fitAll ds ys = true) : OpV P E (.binOp .eql xt x y yt) ty t H (.bool (eqAll xs ys)) := by
  refine ov_of fun a w ht _ o ho _ => ⟨_, by simp only [execOp, ho]; rfl, ?_⟩
  have hg := TyEq.guard (P := P) (t := xt)
  have hp := TyEq.held (P := P) (t := xt)
  have hu := TyEq.und (P := P) (t := xt)
  have hps := TyEq.parts (P := P) (t := xt)
  rw [ev_eval ht hx, ev_eval ht hy, Sem.run_bind, run_eqGuard_agg w _ _ _ _ _ _ hg]
  simp only [Result.andThen]
  rw [run_eql_struct, run_equalIn_struct w 9999 xt _ _ hu hp, run_eqFields (d := 9998) _ ds 0 xs ys xs ys hps h1 h2 rfl rfl]
  rfl
theorem ov_neqs {x y : Operand} {xt yt : TypeId} {xs ys : List Value} {ds : List TypeDesc} [TyEq P xt ds] (hx : ev t x = some (.agg xs.toArray)) (hy : ev t y = some (.agg ys.toArray))
    (h1 : fitAll ds xs = true) (h2 : fitAll ds ys = true) : OpV P E (.binOp .neq xt x y yt) ty t H (.bool (!(eqAll xs ys))) := by
  refine ov_of fun a w ht _ o ho _ => ⟨_, by simp only [execOp, ho]; rfl, ?_⟩
  have hg := TyEq.guard (P := P) (t := xt)
  have hp := TyEq.held (P := P) (t := xt)
  have hu := TyEq.und (P := P) (t := xt)
  have hps := TyEq.parts (P := P) (t := xt)
  rw [ev_eval ht hx, ev_eval ht hy, Sem.run_bind, run_eqGuard_agg w _ _ _ _ _ _ hg]
  simp only [Result.andThen]
  rw [run_neq_struct, run_equalIn_struct w 9999 xt _ _ hu hp, run_eqFields (d := 9998) _ ds 0 xs ys xs ys hps h1 h2 rfl rfl]
  rfl

theorem ov_beql {x y : Operand} {xt yt : TypeId} {p q : Bool} [TyU P xt .bool] (hx : ev t x = some (.bool p)) (hy : ev t y = some (.bool q)) : OpV P E (.binOp .eql xt x y yt) ty t H (.bool (p == q)) := by
  refine ov_of fun a w ht _ o ho _ => ⟨_, by simp only [execOp, ho]; rfl, ?_⟩
  have hu := TyU.und (P := P) (t := xt)
  rw [ev_eval ht hx, ev_eval ht hy, Sem.run_bind]
  have : (eqGuard .eql xt x y (.bool p) (.bool q)).run P w = .ok () w := by
    unfold eqGuard
    split <;> rfl
  rw [this]
  simp only [Result.andThen, binOp, Op.equal, Op.maxDepth, Sem.run_bind]
  rw [run_equalIn_bool' w 9999 xt _ _ hu]
  rfl
theorem ov_bneq {x y : Operand} {xt yt : TypeId} {p q : Bool} [TyU P xt .bool] (hx : ev t x = some (.bool p)) (hy : ev t y = some (.bool q)) : OpV P E (.binOp .neq xt x y yt) ty t H (.bool (!(p == q))) := by
  refine ov_of fun a w ht _ o ho _ => ⟨_, by simp only [execOp, ho]; rfl, ?_⟩
  have hu := TyU.und (P := P) (t := xt)
  rw [ev_eval ht hx, ev_eval ht hy, Sem.run_bind]
  have : (eqGuard .neq xt x y (.bool p) (.bool q)).run P w = .ok () w := by
    unfold eqGuard
    split <;> rfl
  rw [this]
  simp only [Result.andThen, binOp, Op.equal, Op.maxDepth, Sem.run_bind]
  rw [run_equalIn_bool' w 9999 xt _ _ hu]
  rfl

/-! Results that lie in memory: a struct or an array in a block of the call's own. -/
def retC1 (r n : Nat) (R : List Value → Hp → Prop) : Exit → Tm → Hp → Prop
  | .ret, t, H | .normal, t, H => ∃ b cs vs e fz, look t r = some (.pointer (some ⟨b, 0, none⟩)) ∧ Has H b (.cells cs e fz) ∧ sl 0 n cs.toList = some vs ∧ R vs H
  | _, _, _ => False
def retC2 (r n s : Nat) (R : List Value → Value → Hp → Prop) : Exit → Tm → Hp → Prop
  | .ret, t, H | .normal, t, H => ∃ b cs vs e fz u, look t r = some (.pointer (some ⟨b, 0, none⟩)) ∧ Has H b (.cells cs e fz) ∧ sl 0 n cs.toList = some vs ∧ look t s = some u ∧ R vs u H
  | _, _, _ => False
theorem rc1_ret {r n b : Nat} {R : List Value → Hp → Prop} {t : Tm} {H : Hp} {cs : Array Value} {vs : List Value} {e : TypeId} {fz : Nat × Nat} (h1 : look t r = some (.pointer (some ⟨b, 0, none⟩))) (h2 : Has H b (.cells cs e fz)) (h3 : sl 0 n cs.toList = some vs) (hr : R vs H) : retC1 r n R .ret t H := ⟨b, cs, vs, e, fz, h1, h2, h3, hr⟩
theorem rc2_ret {r n s b : Nat} {R : List Value → Value → Hp → Prop} {t : Tm} {H : Hp} {cs : Array Value} {vs : List Value} {e : TypeId} {fz : Nat × Nat} {u : Value} (h1 : look t r = some (.pointer (some ⟨b, 0, none⟩))) (h2 : Has H b (.cells cs e fz)) (h3 : sl 0 n cs.toList = some vs) (h4 : look t s = some u) (hr : R vs u H) : retC2 r n s R .ret t H := ⟨b, cs, vs, e, fz, u, h1, h2, h3, h4, hr⟩

theorem run_cellvar {w : World} {a : Act} {r rt n b : Nat} {cs : Array Value} {vs : List Value} {e : TypeId} {fz : Nat × Nat} [TyA P rt n] (ht : RepT E t a) (hh : RepH E H w)
    (h1 : look t r = some (.pointer (some ⟨b, 0, none⟩))) (h2 : Has H b (.cells cs e fz)) (h3 : sl 0 n cs.toList = some vs) :
    a.tmps[r]?.getD undef = .pointer (some ⟨b, 0, none⟩) ∧ (loadVar rt ⟨b, 0, none⟩).run P w = .ok (.agg vs.toArray) w := by
  have h0 := ht.2.2 r _ h1
  rw [Array.getD_eq_getD_getElem?] at h0
  refine ⟨h0, ?_⟩
  obtain ⟨hv, hl⟩ := sl_spec _ _ _ _ h3
  have hb := (hh.has h2).2
  have hb' : w.heap[b]? = some (.cells cs.toList.toArray e fz) := by simpa using hb
  have := run_load_agg (P := P) (w := w) (lt := rt) (b := b) (off := 0) (vs := vs) hl (fun j v hj => by
    rw [cell_of hb']
    subst hv
    have hlt := (List.getElem?_eq_some_iff.1 hj).1
    simp only [List.length_take] at hlt
    rw [List.getElem?_take_of_lt (by omega), List.getElem?_drop] at hj
    exact hj)
  simpa only [Instr.loadAt, Instr.sureAddr, Sem.run_bind, pure, Sem.run, Result.andThen] using this

theorem results_c1 {fn : Func} {w : World} {a : Act} {r rt n b : Nat} {cs : Array Value} {vs : List Value} {e : TypeId} {fz : Nat × Nat} [TyA P rt n] (hr : fn.results = #[.cell r rt]) (ht : RepT E t a) (hh : RepH E H w)
    (h1 : look t r = some (.pointer (some ⟨b, 0, none⟩))) (h2 : Has H b (.cells cs e fz)) (h3 : sl 0 n cs.toList = some vs) : (results fn a.tmps).run P w = .ok (.agg vs.toArray) w := by
  obtain ⟨h0, hc⟩ := run_cellvar (P := P) ht hh h1 h2 h3 (rt := rt)
  simp only [results, hr]
  simp [Sem.run_bind, h0, hc, asAddr]
theorem results_c2 {fn : Func} {w : World} {a : Act} {r rt n s b : Nat} {cs : Array Value} {vs : List Value} {e : TypeId} {fz : Nat × Nat} {u : Value} [TyA P rt n] (hr : fn.results = #[.cell r rt, .tmp s]) (ht : RepT E t a) (hh : RepH E H w)
    (h1 : look t r = some (.pointer (some ⟨b, 0, none⟩))) (h2 : Has H b (.cells cs e fz)) (h3 : sl 0 n cs.toList = some vs) (h4 : look t s = some u) : (results fn a.tmps).run P w = .ok (.tuple #[.agg vs.toArray, u]) w := by
  obtain ⟨h0, hc⟩ := run_cellvar (P := P) ht hh h1 h2 h3 (rt := rt)
  have hu := ht.2.2 s _ h4
  rw [Array.getD_eq_getD_getElem?] at hu
  simp only [results, hr]
  simp [Sem.run_bind, h0, hc, hu, asAddr]

theorem callsC1 {P : Program} {f : FuncId} {fn : Func} {c : Code} {args : List Value} {w : World} {R : Ending → World → Prop} {n r rt m : Nat} [TyA P rt m]
    (hf : P.funcs[f]? = some fn) (hb : fn.body = some c) (hn : fn.ntmps = n) (hl : Nat.ble args.length n = true) (hr : fn.results = #[.cell r rt])
    (h : aw P ⟨w.heap.size, w, n⟩ c (retC1 r m fun vs H => ∀ w', RepH ⟨w.heap.size, w, n⟩ H w' → R (.returned (.agg vs.toArray)) w') (tm0 args) []) : Calls P f args.toArray w R := by
  refine calls_of_aw0 hf hb hn hl h fun e a t' H' r1 q => ?_
  cases e with
  | normal => obtain ⟨b, cs, vs, e, fz, h1, h2, h3, h4⟩ := q; exact ⟨.inl rfl, _, fun w' r2 => ⟨results_c1 hr r1 r2 h1 h2 h3, h4 _ r2⟩⟩
  | ret => obtain ⟨b, cs, vs, e, fz, h1, h2, h3, h4⟩ := q; exact ⟨.inr rfl, _, fun w' r2 => ⟨results_c1 hr r1 r2 h1 h2 h3, h4 _ r2⟩⟩
  | exit _ => exact q.elim
  | goto _ => exact q.elim
  | panic _ => exact q.elim
  | outgrown => exact q.elim
theorem callsC2 {P : Program} {f : FuncId} {fn : Func} {c : Code} {args : List Value} {w : World} {R : Ending → World → Prop} {n r rt m s : Nat} [TyA P rt m]
    (hf : P.funcs[f]? = some fn) (hb : fn.body = some c) (hn : fn.ntmps = n) (hl : Nat.ble args.length n = true) (hr : fn.results = #[.cell r rt, .tmp s])
    (h : aw P ⟨w.heap.size, w, n⟩ c (retC2 r m s fun vs u H => ∀ w', RepH ⟨w.heap.size, w, n⟩ H w' → R (.returned (.tuple #[.agg vs.toArray, u])) w') (tm0 args) []) : Calls P f args.toArray w R := by
  refine calls_of_aw0 hf hb hn hl h fun e a t' H' r1 q => ?_
  cases e with
  | normal => obtain ⟨b, cs, vs, e, fz, u, h1, h2, h3, h5, h4⟩ := q; exact ⟨.inl rfl, _, fun w' r2 => ⟨results_c2 hr r1 r2 h1 h2 h3 h5, h4 _ r2⟩⟩
  | ret => obtain ⟨b, cs, vs, e, fz, u, h1, h2, h3, h5, h4⟩ := q; exact ⟨.inr rfl, _, fun w' r2 => ⟨results_c2 hr r1 r2 h1 h2 h3 h5, h4 _ r2⟩⟩
  | exit _ => exact q.elim
  | goto _ => exact q.elim
  | panic _ => exact q.elim
  | outgrown => exact q.elim
attribute [irreducible] retC1 retC2

/-! Functions without a body that the model knows. -/
class FnX (P : Program) (f : FuncId) (e : outParam (Array Value → Sem Value)) : Prop where
  fn : ∃ fn, P.funcs[f]? = some fn ∧ (fn.name == "runtime.NumGoroutine") = false ∧ fn.body.isNone = true ∧ Extern.findNext fn = none ∧ Extern.find fn = some e

theorem ov_ext {f : FuncId} {xs : List Operand} {ats : Array TypeId} {vs : List Value} {e : Array Value → Sem Value} {v : Value} [FnX P f e] (hv : evL t xs = some vs) (hr : ∀ w, (e vs.toArray).run P w = .ok v w) :
    OpV P E (.call ⟨.value (.func f), xs.toArray, ats⟩) ty t H v := by
  intro a w ht _ o ho _
  obtain ⟨fn, hf, hn, hb, hn2, he⟩ := FnX.fn (P := P) (f := f)
  have hev := evL_eval ht xs vs hv
  simp only [execOp, ho, resolve, Act.eval, Deferred.ofValue, Sem.run_bind, Sem.run, pure, Result.andThen, invoke, List.map_toArray, hev]
  have := run_callFunc_extern hf hn hb hn2 he vs.toArray w
  simp only [hr, Result.andThen] at this
  simpa using this

/-! Cuts of strings. -/
theorem run_bound {k : IntKind} {i y : Nat} {code : BoundsCode} {w : World} (h : i ≤ y) : (Instr.sliceBound (.int k (i : Int)) y code).run P w = .ok i w := by
  have c : (0 : Int) ≤ (i : Int) ∧ (i : Int) ≤ (y : Int) := ⟨by omega, by omega⟩
  simp only [Instr.sliceBound, asIntOf, Sem.run_bind, pure, Sem.run, Result.andThen, c, and_self, if_true, Int.toNat_natCast]

theorem run_bounds {lo hi : Option Value} {n i j : Nat} {w : World} (hl : (lo = none ∧ i = 0) ∨ ∃ k x, lo = some (.int k x) ∧ x = (i : Int)) (hh : (hi = none ∧ j = n) ∨ ∃ k x, hi = some (.int k x) ∧ x = (j : Int)) (h1 : i ≤ j) (h2 : j ≤ n) :
    (Instr.sliceBounds false n n lo hi none).run P w = .ok (i, j, n) w := by
  rcases hl with ⟨rfl, rfl⟩ | ⟨k, x, rfl, rfl⟩ <;> rcases hh with ⟨rfl, rfl⟩ | ⟨k2, x2, rfl, rfl⟩ <;>
    simp [Instr.sliceBounds, Sem.run_bind, pure, Sem.run, Result.andThen, run_bound, h1, h2]

theorem ov_sslice_hi {x y : Operand} {xt : TypeId} {l : List UInt8} {k : IntKind} {q : Int} {j : Nat} [TyU P xt .string] (hx : ev t x = some (S l)) (hy : ev t y = some (.int k q)) (hq : q = (j : Int)) (hj : j ≤ l.length) :
    OpV P E (.slice xt x none (some y) none) ty t H (S (l.take j)) := by
  have := ov_sslice (P := P) (E := E) (t := t) (H := H) (ty := ty) (lo := none) (hi := some y) (i := 0) (j := j) (xt := xt) hx (fun a w ht => run_bounds (.inl ⟨rfl, rfl⟩) (.inr ⟨k, q, by simp [ev_eval ht hy], hq⟩) (by omega) hj)
  simpa using this
theorem ov_sslice_lo {x y : Operand} {xt : TypeId} {l : List UInt8} {k : IntKind} {q : Int} {i : Nat} [TyU P xt .string] (hx : ev t x = some (S l)) (hy : ev t y = some (.int k q)) (hq : q = (i : Int)) (hi : i ≤ l.length) :
    OpV P E (.slice xt x (some y) none none) ty t H (S (l.drop i)) := by
  have := ov_sslice (P := P) (E := E) (t := t) (H := H) (ty := ty) (lo := some y) (hi := none) (i := i) (j := l.length) (xt := xt) hx (fun a w ht => run_bounds (.inr ⟨k, q, by simp [ev_eval ht hy], hq⟩) (.inl ⟨rfl, rfl⟩) hi (Nat.le_refl _))
  have e : (l.drop i).take (l.length - i) = l.drop i := List.take_of_length_le (by simp)
  rwa [e] at this
theorem ov_sslice_both {x y z : Operand} {xt : TypeId} {l : List UInt8} {k k2 : IntKind} {q q2 : Int} {i j : Nat} [TyU P xt .string] (hx : ev t x = some (S l)) (hy : ev t y = some (.int k q)) (hz : ev t z = some (.int k2 q2)) (hq : q = (i : Int)) (hq2 : q2 = (j : Int)) (hi : i ≤ j) (hj : j ≤ l.length) :
    OpV P E (.slice xt x (some y) (some z) none) ty t H (S ((l.drop i).take (j - i))) :=
  ov_sslice (xt := xt) hx (fun a w ht => run_bounds (.inr ⟨k, q, by simp [ev_eval ht hy], hq⟩) (.inr ⟨k2, q2, by simp [ev_eval ht hz], hq2⟩) hi hj)

/-! A range over a string. -/
theorem on_srange {x : Operand} {xt : TypeId} {l : List UInt8} [TyU P xt .string] (hx : ev t x = some (S l)) : OpN P E (.range xt x) ty t H (.stringIter ⟨l.toArray⟩ 0) (fun b => .pointer (some ⟨b, 0, none⟩)) := by
  intro a w ht _ o ho _
  have hu := TyU.und (P := P) (t := xt)
  simp only [execOp, ho, ev_eval ht hx, Instr.range, Sem.run_bind, run_underlying hu, Result.andThen, newObj, pure, Sem.run]
  rfl
theorem ov_snext_end {x : Operand} {b pos : Nat} {l : List UInt8} (hx : ev t x = some (.pointer (some ⟨b, 0, none⟩))) (hb : Has H b (.stringIter ⟨l.toArray⟩ pos)) (hp : l.length ≤ pos) :
    OpV P E (.next x true) ty t H (.tuple #[.bool false]) := by
  refine ov_of fun a w ht hh o ho _ => ⟨_, by simp only [execOp, ho]; rfl, ?_⟩
  have h1 : ¬ pos < (⟨l.toArray⟩ : ByteArray).size := by
    show ¬ pos < l.length
    omega
  rw [ev_eval ht hx]
  simp only [Instr.next, getObj, Sem.run_bind, Sem.run, (hh.has hb).2, Result.andThen, pure, h1, if_false]
theorem ow_snext {x : Operand} {b pos : Nat} {l : List UInt8} (hx : ev t x = some (.pointer (some ⟨b, 0, none⟩))) (hb : Has H b (.stringIter ⟨l.toArray⟩ pos)) {r wd : Nat} (hp : pos < l.length) (hd : Utf8.decode ⟨l.toArray⟩ pos = (r, wd)) :
    OpW P E (.next x true) ty t H b (.stringIter ⟨l.toArray⟩ (pos + wd)) (.value (.tuple #[.bool true, I pos, .int .i32 r])) := by
  intro a w ht hh o ho _
  have h1 : pos < (⟨l.toArray⟩ : ByteArray).size := hp
  simp only [execOp, ho, ev_eval ht hx, Instr.next, getObj, setObj, Sem.run_bind, Sem.run, (hh.has hb).2, Result.andThen, pure, h1, if_true, goInt, hd]
end
end Sx
end Go.Proofs.Ytpenogailhlcaaa
