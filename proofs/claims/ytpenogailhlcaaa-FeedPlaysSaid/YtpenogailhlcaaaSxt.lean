/- Closures that write what they captured and hand back a value and two structs that lie in memory; slices cut at their head; conditions: none. -/
import Derived.Test.YtpenogailhlcaaaSxs
namespace Go.Proofs.Ytpenogailhlcaaa
namespace Sx
open Go Go.RowKit
set_option linter.unusedSimpArgs false

section
variable {P : Program} {E : Env} {Q : Exit → Tm → Hp → Prop} {t : Tm} {H : Hp} {ops : Array Oper} {rest : List Oper} {ty : TypeId}

theorem results_t {fn : Func} {w : World} {a : Act} {r s u rt n b c : Nat} {cs ds : Array Value} {xs ys : List Value} {e g : TypeId} {fz gz : Nat × Nat} {v : Value} [TyA P rt n] (hr : fn.results = #[.tmp r, .cell s rt, .cell u rt]) (ht : RepT E t a) (hh : RepH E H w)
    (h0 : look t r = some v) (h1 : look t s = some (.pointer (some ⟨b, 0, none⟩))) (h2 : Has H b (.cells cs e fz)) (h3 : sl 0 n cs.toList = some xs)
    (h4 : look t u = some (.pointer (some ⟨c, 0, none⟩))) (h5 : Has H c (.cells ds g gz)) (h6 : sl 0 n ds.toList = some ys) : (results fn a.tmps).run P w = .ok (.tuple #[v, .agg xs.toArray, .agg ys.toArray]) w := by
  obtain ⟨g1, c1⟩ := run_cellvar (P := P) ht hh h1 h2 h3 (rt := rt)
  obtain ⟨g2, c2⟩ := run_cellvar (P := P) ht hh h4 h5 h6 (rt := rt)
  have hv := ht.2.2 r _ h0
  rw [Array.getD_eq_getD_getElem?] at hv
  simp only [results, hr]
  simp [Sem.run_bind, g1, c1, g2, c2, hv, asAddr]

/-- A value, and two structs that lie in memory. -/
def retT (r s u n : Nat) (R : Value → List Value → List Value → Hp → Prop) : Exit → Tm → Hp → Prop
  | .ret, t, H | .normal, t, H => ∃ v b cs xs e fz c ds ys g gz, look t r = some v ∧ look t s = some (.pointer (some ⟨b, 0, none⟩)) ∧ Has H b (.cells cs e fz) ∧ sl 0 n cs.toList = some xs ∧
      look t u = some (.pointer (some ⟨c, 0, none⟩)) ∧ Has H c (.cells ds g gz) ∧ sl 0 n ds.toList = some ys ∧ R v xs ys H
  | _, _, _ => False
theorem rt_ret {r s u n b c : Nat} {R : Value → List Value → List Value → Hp → Prop} {cs ds : Array Value} {xs ys : List Value} {e g : TypeId} {fz gz : Nat × Nat} {v : Value}
    (h0 : look t r = some v) (h1 : look t s = some (.pointer (some ⟨b, 0, none⟩))) (h4 : look t u = some (.pointer (some ⟨c, 0, none⟩))) (h2 : Has H b (.cells cs e fz)) (h5 : Has H c (.cells ds g gz)) (h3 : sl 0 n cs.toList = some xs)
    (h6 : sl 0 n ds.toList = some ys) (h : R v xs ys H) : retT r s u n R .ret t H := ⟨v, b, cs, xs, e, fz, c, ds, ys, g, gz, h0, h1, h2, h3, h4, h5, h6, h⟩

theorem callsFT {B m : Nat} {w0 : World} {f : FuncId} {fn : Func} {c : Code} {args : List Value} {n r s u rt k : Nat} {l l' : Hp} {v : Value} {xs ys : List Value} [TyA P rt k]
    (hf : P.funcs[f]? = some fn) (hb : fn.body = some c) (hn : fn.ntmps = n) (hl : Nat.ble args.length n = true) (hr : fn.results = #[.tmp r, .cell s rt, .cell u rt])
    (h : ∀ R, aw P ⟨B, w0, n⟩ c (retT r s u k fun v' xs' ys' H' => v' = v ∧ xs' = xs ∧ ys' = ys ∧ (l' ++ R).Sublist H') (tm0 args) (l ++ R)) :
    CallsF P ⟨B, w0, m⟩ f args l (.tuple #[v, .agg xs.toArray, .agg ys.toArray]) l' := by
  intro R
  refine callsH_of_aw hf hb hn hl (h R) fun e a t' H' r1 q => ?_
  unfold retT at q
  cases e with
  | normal =>
    obtain ⟨v', b, cs, xs', e, fz, c, ds, ys', g, gz, h0, h1, h2, h3, h4, h5, h6, rfl, rfl, rfl, hs⟩ := q
    exact ⟨.inl rfl, _, l' ++ R, l' ++ R, fun w' r2 => results_t hr r1 r2 h0 h1 h2 h3 h4 h5 h6, hs, List.Perm.refl _, rfl, rfl⟩
  | ret =>
    obtain ⟨v', b, cs, xs', e, fz, c, ds, ys', g, gz, h0, h1, h2, h3, h4, h5, h6, rfl, rfl, rfl, hs⟩ := q
    exact ⟨.inr rfl, _, l' ++ R, l' ++ R, fun w' r2 => results_t hr r1 r2 h0 h1 h2 h3 h4 h5 h6, hs, List.Perm.refl _, rfl, rfl⟩
  | exit _ => exact q.elim
  | goto _ => exact q.elim
  | panic _ => exact q.elim
  | outgrown => exact q.elim

/-- A slice without its first element. -/
def tlS (sz : Nat) : Value → Value
  | .slice a n c => .slice (if c = 1 then a else a.map (·.add (1 * sz))) (n - 1) (c - 1)
  | v => v
theorem ov_sltail {x y : Operand} {xt e : TypeId} {sz by_ n c : Nat} {a : Option Addr} {k : IntKind} [TySl P xt e sz by_] (hx : ev t x = some (.slice a n c)) (hy : ev t y = some (.int k 1)) (hn : 1 ≤ n) :
    OpV P E (.slice xt x (some y) none none) ty t H (tlS sz (.slice a n c)) := by
  refine ov_of fun a' w ht hh o ho _ => ⟨_, by simp only [execOp, ho]; rfl, ?_⟩
  obtain ⟨i', z, hu, hi, hz, rfl, rfl, hzs⟩ := TySl.sl (P := P) (t := xt)
  have hs : (P.info? e).map (·.size) = some i'.size := by rw [hi]; rfl
  have hb : (Instr.sliceBound (.int k 1) n .sliceB).run P w = .ok 1 w := by
    have := run_bound (P := P) (k := k) (i := 1) (y := n) (code := .sliceB) (w := w) hn
    simpa using this
  rw [ev_eval ht hx]
  simp only [Option.map_some, Option.map_none, ev_eval ht hy]
  simp only [Instr.sliceAt, Instr.slice, Sem.run_bind, run_underlying hu, Result.andThen, Instr.sliceBounds, pure, Sem.run, Option.isSome_none, Bool.false_eq_true, if_false, hb, run_sizeOf hs, tlS]
/-- A row that came in, with room for no less than it has. -/
def OldCap (w : World) (sz : Nat) (v : Value) (n : Nat) (xs : List Value) : Prop := OldRow w sz v n xs ∧ ∀ a k c, v = .slice a k c → k ≤ c
theorem OldCap.below {w w' : World} {sz n : Nat} {v : Value} {xs : List Value} (h : OldCap w sz v n xs) (hb : Below w.heap.size w w') : OldCap w' sz v n xs := ⟨h.1.below hb, h.2⟩
theorem OldCap.tail {w : World} {sz n : Nat} {v : Value} {xs : List Value} (h : OldCap w sz v (n + 1) xs) : OldCap w sz (tlS sz v) n (xs.drop sz) := by
  obtain ⟨⟨hl, a, c, rfl, hat⟩, hc⟩ := h
  have hc := hc _ _ _ rfl
  refine ⟨⟨by rw [List.length_drop, hl, Nat.add_mul]; omega, _, _, rfl, fun hn => ?_⟩, fun a k c h => by cases h; omega⟩
  obtain ⟨g, o, rfl, hg, hcell⟩ := hat (by omega)
  refine ⟨g, o + 1 * sz, ?_, hg, fun j u hj => ?_⟩
  · rw [if_neg (by omega), Option.map_some, add_off]
  · rw [List.getElem?_drop] at hj
    have := hcell (sz + j) u hj
    rwa [Nat.one_mul, Nat.add_assoc]
theorem RowB.capd {e : TypeId} {sz : Nat} {v : Value} {l : Hp} {n : Nat} {xs : List Value} (h : RowB e sz v l n xs) : ∀ a k c, v = .slice a k c → k ≤ c := by
  rintro a k c rfl
  rcases h.2 with ⟨h1, rfl, _⟩ | ⟨g, cap, cur, h1, _, h3, _⟩
  · cases h1; omega
  · cases h1; exact h3
end
attribute [irreducible] retT
end Sx
end Go.Proofs.Ytpenogailhlcaaa
