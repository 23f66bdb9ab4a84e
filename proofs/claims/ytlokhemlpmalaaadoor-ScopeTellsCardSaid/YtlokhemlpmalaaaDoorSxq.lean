/- min, the head of a row, in the symbolic walk, over whatever program; conditions: none. -/
import Derived.Test.YtlokhemlpmalaaaDoorSxz
namespace Go.Proofs.YtlokhemlpmalaaaDoor
namespace Sx
open Go Go.RowKit
variable {P : Program} {E : Env} {t : Tm} {H : Hp} {ty : TypeId}

theorem ov_minR {x y : Operand} {ats : Array TypeId} {k : IntKind} {p q : Int} (r : Int) (hx : ev t x = some (.int k p)) (hy : ev t y = some (.int k q)) (hr : (if q < p then q else p) = r) : OpV P E (.call ⟨.builtin .min, #[x, y], ats⟩) ty t H (.int k r) := by
  intro a w ht _ o ho _
  subst hr
  simp [execOp, ho, resolve, invoke, builtin, Builtin.min_, Builtin.min2, ev_eval ht hx, ev_eval ht hy, Sem.run, pure]
/-- The first j elements of a row of the call's own. -/
theorem ov_slhead {x y : Operand} {xt e : TypeId} {sz by_ n c g j : Nat} {k : IntKind} {q : Int} [TySl P xt e sz by_] (hx : ev t x = some (.slice (some ⟨g, 0, none⟩) n c)) (hy : ev t y = some (.int k q)) (hq : q = (j : Int)) (hj : j ≤ c) :
    OpV P E (.slice xt x none (some y) none) ty t H (.slice (some ⟨g, 0, none⟩) j c) := by
  refine ov_of fun a' w ht hh o ho _ => ⟨_, by simp only [execOp, ho]; rfl, ?_⟩
  subst hq
  obtain ⟨i', z, hu, hi, hz, rfl, rfl, hzs⟩ := TySl.sl (P := P) (t := xt)
  have hs : (P.info? e).map (·.size) = some i'.size := by rw [hi]; rfl
  have hb : (Instr.sliceBound (.int k (j : Int)) c .sliceAcap).run P w = .ok j w := run_bound hj
  have e1 : (if c = 0 then (some (⟨g, 0, none⟩ : Addr)) else (some (⟨g, 0, none⟩ : Addr)).map (·.add (0 * i'.size))) = some ⟨g, 0, none⟩ := by
    split
    · rfl
    · simp [Addr.add]
  rw [ev_eval ht hx]
  simp only [Option.map_some, Option.map_none, ev_eval ht hy]
  simp only [Instr.sliceAt, Instr.slice, Sem.run_bind, run_underlying hu, Result.andThen, Instr.sliceBounds, pure, Sem.run, Option.isSome_none, if_true, hb, run_sizeOf hs, Nat.sub_zero, e1]
/-- An element of one cell of an array value. -/
theorem ov_aindex1 {x i : Operand} {xt e : TypeId} {k : IntKind} {len j : Nat} {z : Int} {cs : List Value} {v : Value} [TyArr P xt len e] [TyC P e] (hx : ev t x = some (.agg cs.toArray)) (hy : ev t i = some (.int k z)) (hi : z = (j : Int)) (hj : j < len)
    (hv : cs[j]? = some v) : OpV P E (.index xt x i) ty t H v := by
  refine ov_of fun a w ht hh o ho _ => ⟨_, by simp only [execOp, ho]; rfl, ?_⟩
  subst hi
  have hu := TyArr.arr (P := P) (t := xt) (len := len) (e := e)
  have hs := TyC.size (P := P) (t := e)
  have hp := run_part_cell (P := P) (w := w) (pt := e) (cs := cs) (off := j * 1) (by rw [Nat.mul_one]; exact hv)
  have h0 : (0 : Int) ≤ (j : Int) ∧ (j : Int) < (len : Int) := ⟨by omega, by omega⟩
  rw [ev_eval ht hx, ev_eval ht hy]
  simp only [Instr.index, asIntOf, Sem.run_bind, run_underlying hu, Result.andThen, pure_bind, if_pos h0, run_sizeOf hs, Int.toNat_natCast, hp]
end Sx
end Go.Proofs.YtlokhemlpmalaaaDoor
