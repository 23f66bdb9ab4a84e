/- A stable sort, as facts of functions from places: moves, swaps, rotations, merges; conditions: none. -/
import Derived.Test.YtdakeicfhbggeaaGreatSxk
/- Srt: A stable sort, as facts of functions from places: moves, swaps, rotations, merges; conditions: none. -/
namespace Go.Proofs.YtdakeicfhbggeaaGreat
namespace Srt
variable {α : Type} {a b c m i j k n s : Nat} {d e f : Nat → α}
variable {lt : α → α → Prop} {x : α → Nat}
end Srt
end Go.Proofs.YtdakeicfhbggeaaGreat
/- Sxw: Rows of the call's own whose elements move: elements by their places; calls that hand back nothing and write into the caller's memory; conditions: none. -/
namespace Go.Proofs.YtdakeicfhbggeaaGreat
namespace Sx
open Go Go.RowKit Srt
set_option linter.unusedSimpArgs false
def rowL {α : Type} (f : α → List Value) (n : Nat) (d : Nat → α) : List Value := ((List.range n).map d).flatMap f
def upd {α : Type} (d : Nat → α) (i : Nat) (x : α) : Nat → α := fun k => if k = i then x else d k
section
variable {P : Program} {E : Env} {Q : Exit → Tm → Hp → Prop} {t : Tm} {H : Hp}
def ret0 (R : Hp → Prop) : Exit → Tm → Hp → Prop
  | .ret, _, H | .normal, _, H => R H
  | _, _, _ => False
theorem r0_ret {R : Hp → Prop} (h : R H) : ret0 R .ret t H := h
theorem r0_normal {R : Hp → Prop} (h : R H) : ret0 R .normal t H := h
theorem results_none {fn : Func} {w : World} {a : Array Value} (hr : fn.results = #[]) : (results fn a).run P w = .ok (.tuple #[]) w := by
  simp [results, hr, pure, Sem.run]
theorem callsH0 {B m : Nat} {w0 : World} {f : FuncId} {fn : Func} {c : Code} {args : List Value} {n : Nat} {K : Hp → Prop}
    (hf : P.funcs[f]? = some fn) (hb : fn.body = some c) (hn : fn.ntmps = n) (hl : Nat.ble args.length n = true) (hr : fn.results = #[])
    (h : aw P ⟨B, w0, n⟩ c (ret0 fun H' => ∃ H1, H1.Sublist H' ∧ K H1) (tm0 args) H) : CallsH P ⟨B, w0, m⟩ f args H fun u H' => u = .tuple #[] ∧ K H' := by
  refine callsH_of_aw hf hb hn hl h fun e a t' H' r1 q => ?_
  unfold ret0 at q
  cases e with
  | normal =>
    obtain ⟨H1, hs, hk⟩ := q
    exact ⟨.inl rfl, _, H1, H1, fun w' _ => results_none hr, hs, List.Perm.refl _, rfl, hk⟩
  | ret =>
    obtain ⟨H1, hs, hk⟩ := q
    exact ⟨.inr rfl, _, H1, H1, fun w' _ => results_none hr, hs, List.Perm.refl _, rfl, hk⟩
  | exit _ => exact q.elim
  | goto _ => exact q.elim
  | panic _ => exact q.elim
  | outgrown => exact q.elim
end
attribute [irreducible] rowL
end Sx
end Go.Proofs.YtdakeicfhbggeaaGreat
