/- Maps with keys that are integers, in the call's own memory: made, filled, asked; conditions: none. -/
import Derived.MapKept
import Derived.Test.YtpenogailhlcaaaSxk
namespace Go.Proofs.Ytpenogailhlcaaa
namespace Sx
open Go Go.RowKit Go.MapKept

class TyMap (P : Program) (t : TypeId) (k e : outParam TypeId) (kk : outParam IntKind) : Prop where
  map : P.underlying t = some (.map k e)
  key : P.underlying k = some (.int kk)

section
variable {P : Program} {E : Env} {t : Tm} {H : Hp} {ty mt kt et : TypeId} {kk : IntKind}
theorem on_makeMap : OpN P E (.makeMap mt none) ty t H (.map #[] 0) (fun b => .map (some b)) := by
  intro a w ht _ o ho _
  simp only [execOp, ho, Option.map_none, Instr.makeMap, newObj, Sem.run_bind, Sem.run, pure, Result.andThen]
  rfl
theorem ow_insert {x y z : Operand} {b c : Nat} {n : Int} {u : Value} {es : List MapEntry} [TyMap P mt kt et kk] (hx : ev t x = some (.map (some b))) (hk : ev t y = some (.int kk n)) (hv : ev t z = some u) (hb : Has H b (.map es.toArray c))
    (hn : Instr.findNow (.int kk) (.int kk n) es 0 = some none) : OpW P E (.insert mt x y z) ty t H b (.map (es ++ [({ key := .int kk n, val := u, born := c } : MapEntry)]).toArray (c + 1)) .skip := by
  intro a w ht hh o ho _
  have hg := (hh.has hb).2
  have hkey : IsKey (.int kk) (.int kk n) := rfl
  have hm := TyMap.map (P := P) (t := mt)
  have hd := TyMap.key (P := P) (t := mt)
  simp [execOp, ho, ev_eval ht hx, ev_eval ht hk, ev_eval ht hv, Instr.mapUpdate, run_underlying hm, MapKept.run_getObj_map hg, MapKept.run_checkKey hd hkey, MapKept.run_findKey hd hn, MapKept.run_setObj_map _ hg, Result.andThen]
theorem ov_lookup_t {x y : Operand} {b c i : Nat} {n : Int} {u : Value} {es : List MapEntry} [TyMap P mt kt et kk] (hx : ev t x = some (.map (some b))) (hk : ev t y = some (.int kk n)) (hb : Has H b (.map es.toArray c))
    (hn : Instr.findNow (.int kk) (.int kk n) es 0 = some (some (i, u))) : OpV P E (.lookup mt x y true) ty t H (.tuple #[u, .bool true]) := by
  refine ov_of fun a w ht hh o ho _ => ⟨_, by simp only [execOp, ho]; rfl, ?_⟩
  have hg := (hh.has hb).2
  have hkey : IsKey (.int kk) (.int kk n) := rfl
  have hm := TyMap.map (P := P) (t := mt)
  have hd := TyMap.key (P := P) (t := mt)
  simp [ev_eval ht hx, ev_eval ht hk, Instr.lookup, run_underlying hm, MapKept.run_getObj_map hg, MapKept.run_checkKey hd hkey, MapKept.run_findKey hd hn, Result.andThen]
theorem ov_lookup_f {x y : Operand} {b c : Nat} {n : Int} {z : Value} {es : List MapEntry} [TyMap P mt kt et kk] [TyZ P et z] (hx : ev t x = some (.map (some b))) (hk : ev t y = some (.int kk n)) (hb : Has H b (.map es.toArray c))
    (hn : Instr.findNow (.int kk) (.int kk n) es 0 = some none) : OpV P E (.lookup mt x y true) ty t H (.tuple #[z, .bool false]) := by
  refine ov_of fun a w ht hh o ho _ => ⟨_, by simp only [execOp, ho]; rfl, ?_⟩
  have hg := (hh.has hb).2
  have hkey : IsKey (.int kk) (.int kk n) := rfl
  have hm := TyMap.map (P := P) (t := mt)
  have hd := TyMap.key (P := P) (t := mt)
  have hz := TyZ.zero (P := P) (t := et)
  obtain ⟨i, hi, hz2⟩ := Option.map_eq_some_iff.1 hz
  simp [ev_eval ht hx, ev_eval ht hk, Instr.lookup, run_underlying hm, MapKept.run_getObj_map hg, MapKept.run_checkKey hd hkey, MapKept.run_findKey hd hn, Result.andThen, zeroValue, typeInfo, hi, hz2]
end
end Sx
end Go.Proofs.Ytpenogailhlcaaa
