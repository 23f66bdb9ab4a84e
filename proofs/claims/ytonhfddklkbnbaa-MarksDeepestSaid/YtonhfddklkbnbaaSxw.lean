/- Rows of the call's own whose elements move: elements by their places; calls that hand back nothing and write into the caller's memory; conditions: none. -/
import Derived.Test.YtonhfddklkbnbaaSrt
namespace Go.Proofs.Ytonhfddklkbnbaa
namespace Sx
open Go Go.RowKit Srt
set_option linter.unusedSimpArgs false

def rowL {α : Type} (f : α → List Value) (n : Nat) (d : Nat → α) : List Value := ((List.range n).map d).flatMap f
def upd {α : Type} (d : Nat → α) (i : Nat) (x : α) : Nat → α := fun k => if k = i then x else d k
theorem upd_swp {α : Type} (d : Nat → α) (i j : Nat) : upd (upd d i (d j)) j (d i) = swp d i j := by
  funext k
  unfold upd swp
  by_cases h1 : k = j
  · by_cases h2 : k = i
    · rw [if_pos h1, if_pos h2, ← h1, ← h2]
    · rw [if_pos h1, if_neg h2, if_pos h1]
  · rw [if_neg h1, if_neg h1]
theorem rowL_len {α : Type} {f : α → List Value} {sz : Nat} (hf : ∀ a, (f a).length = sz) (n : Nat) (d : Nat → α) : (rowL f n d).length = n * sz := by
  unfold rowL; rw [flat_len hf, List.length_map, List.length_range]
theorem rowL_sl {α : Type} {f : α → List Value} {sz n i : Nat} (hf : ∀ a, (f a).length = sz) (hsz : 0 < sz) {d : Nat → α} (hi : i < n) {z : Int} (hz : z = (i : Int)) : sl (0 + z.toNat * sz) sz (rowL f n d) = some (f (d i)) := by
  subst hz
  have := sl_of (off := 0 + (i : Int).toNat * sz) (cs := rowL f n d) (vs := f (d i)) (.inl (by rw [hf]; exact hsz)) fun j v hj => by
    rw [Int.toNat_natCast, Nat.zero_add]
    exact flat_at hf _ i j (d i) v (by simp [hi]) hj
  rwa [hf] at this
theorem setAll_at : ∀ (vs cs : List Value) (off k : Nat), (setAll cs off vs)[k]? = if off ≤ k ∧ k < off + vs.length ∧ k < cs.length then vs[k - off]? else cs[k]?
  | [], cs, off, k => by rw [setAll, if_neg (by simp; omega)]
  | v :: vs, cs, off, k => by
    rw [setAll, setAll_at vs (cs.set off v) (off + 1) k, List.length_set, List.length_cons]
    by_cases h1 : k = off
    · subst h1
      rw [if_neg (by omega)]
      by_cases h2 : k < cs.length
      · rw [if_pos ⟨by omega, by omega, h2⟩]; simp [h2]
      · rw [if_neg (by omega)]; simp [h2]
    · by_cases h2 : off + 1 ≤ k ∧ k < off + 1 + vs.length ∧ k < cs.length
      · rw [if_pos h2, if_pos (by omega), show k - off = (k - (off + 1)) + 1 by omega, List.getElem?_cons_succ]
      · rw [if_neg h2, if_neg (by omega), List.getElem?_set_ne (by omega)]
theorem setAll_row {α : Type} {f : α → List Value} {sz n i : Nat} (hf : ∀ a, (f a).length = sz) {d : Nat → α} (hi : i < n) (x : α) : setAll (rowL f n d) (i * sz) (f x) = rowL f n (upd d i x) := by
  have hle : i * sz + sz ≤ n * sz := by rw [← Nat.succ_mul]; exact Nat.mul_le_mul_right _ hi
  apply List.ext_getElem?
  intro k
  rw [setAll_at, hf, rowL_len hf]
  by_cases hk : k < n * sz
  · have hpos : 0 < sz := by
      rcases Nat.eq_zero_or_pos sz with h0 | h0
      · subst h0; simp at hk
      · exact h0
    have e := Nat.div_add_mod k sz
    have hm := Nat.mod_lt k hpos
    have hq : k / sz < n := by rw [Nat.div_lt_iff_lt_mul hpos]; exact hk
    have hkk : k = k / sz * sz + k % sz := by rw [Nat.mul_comm]; exact e.symm
    have cell : ∀ (g : Nat → α), (rowL f n g)[k]? = (f (g (k / sz)))[k % sz]? := fun g => by
      have h1 : (f (g (k / sz)))[k % sz]? = some ((f (g (k / sz)))[k % sz]'(by rw [hf]; exact hm)) := List.getElem?_eq_getElem _
      rw [h1]
      have := flat_at hf ((List.range n).map g) (k / sz) (k % sz) (g (k / sz)) _ (by simp [hq]) h1
      rw [← hkk] at this
      exact this
    by_cases hi2 : k / sz = i
    · rw [if_pos ⟨by rw [← hi2]; omega, by rw [← hi2]; omega, hk⟩, cell]
      unfold upd
      rw [if_pos hi2, show k - i * sz = k % sz by rw [← hi2]; omega]
    · have : ¬ (i * sz ≤ k ∧ k < i * sz + sz) := by
        rintro ⟨h1, h2⟩
        apply hi2
        apply Nat.div_eq_of_lt_le h1
        rw [Nat.succ_mul]; exact h2
      rw [if_neg (by omega), cell, cell]
      unfold upd
      rw [if_neg hi2]
  · rw [if_neg (by omega), List.getElem?_eq_none (by rw [rowL_len hf]; omega), List.getElem?_eq_none (by rw [rowL_len hf]; omega)]

section
variable {P : Program} {E : Env} {Q : Exit → Tm → Hp → Prop} {t : Tm} {H : Hp}
/-- An element is stored. -/
theorem ow_storeX {α : Type} {f : α → List Value} {xo yo : Operand} {st : TypeId} {sz b n i : Nat} {z : Int} {d : Nat → α} {x : α} {ty e : TypeId} [TyA P st sz] (hf : ∀ a, (f a).length = sz) (hfl : (f x).all flat = true)
    (hx : ev t xo = some (.pointer (some ⟨b, 0 + z.toNat * sz, none⟩))) (hz : z = (i : Int)) (hy : ev t yo = some (.agg (f x).toArray)) (hb : Has H b (.cells (rowL f n d).toArray e (0, 0))) (hi : i < n) :
    OpW P E (.store st xo yo) ty t H b (.cells (rowL f n (upd d i x)).toArray e (0, 0)) .skip := by
  intro a w ht hh o ho _
  subst hz
  have h2 := TyA.size (P := P) (t := st)
  have hle : i * sz + sz ≤ n * sz := by rw [← Nat.succ_mul]; exact Nat.mul_le_mul_right _ hi
  have hl : (f x).toArray.size = sz := by simpa using hf x
  simp only [execOp, ho, Sem.run_bind, Instr.storeAt, Instr.sureAddr, ev_eval ht hx, ev_eval ht hy, pure, Sem.run, Result.andThen, storeVar, run_sizeOf h2, Value.cells]
  simp only [hl, ne_eq, not_true_eq_false, if_false]
  rw [run_storeCells (f x) (rowL f n d) 0 w (hh.has hb).2 (by rw [hf, rowL_len hf, Int.toNat_natCast]; omega) hfl, Int.toNat_natCast, Nat.zero_add, Nat.add_zero, setAll_row hf hi]

theorem ow_storeR {α : Type} {f : α → List Value} {xo yo : Operand} {st : TypeId} {sz b n i : Nat} {z : Int} {d : Nat → α} {x : α} {ty e : TypeId} [TyA P st sz] (hf : ∀ a, (f a).length = sz) (hfl : ∀ a, (f a).all flat = true)
    (hx : ev t xo = some (.pointer (some ⟨b, 0 + z.toNat * sz, none⟩))) (hz : z = (i : Int)) (hy : ev t yo = some (.agg (f x).toArray)) (hb : Has H b (.cells (rowL f n d).toArray e (0, 0))) (hi : i < n) :
    OpW P E (.store st xo yo) ty t H b (.cells (rowL f n (upd d i x)).toArray e (0, 0)) .skip := ow_storeX hf (hfl x) hx hz hy hb hi
/-- Cells as elements. -/
theorem cells_row {sz n : Nat} {cs : List Value} (h : cs.length = n * sz) : ∃ d : Nat → { l : List Value // l.length = sz }, cs = rowL Subtype.val n d := by
  have hf : ∀ a : { l : List Value // l.length = sz }, (Subtype.val a).length = sz := fun a => a.2
  refine ⟨fun k => if hk : ((cs.drop (k * sz)).take sz).length = sz then ⟨_, hk⟩ else ⟨List.replicate sz default, by simp⟩, ?_⟩
  apply List.ext_getElem?
  intro k
  by_cases hk : k < n * sz
  · have hpos : 0 < sz := by
      rcases Nat.eq_zero_or_pos sz with h0 | h0
      · subst h0; simp at hk
      · exact h0
    have e := Nat.div_add_mod k sz
    have hm := Nat.mod_lt k hpos
    have hq : k / sz < n := by rw [Nat.div_lt_iff_lt_mul hpos]; exact hk
    have hkk : k = k / sz * sz + k % sz := by rw [Nat.mul_comm]; exact e.symm
    have hle : k / sz * sz + sz ≤ n * sz := by rw [← Nat.succ_mul]; exact Nat.mul_le_mul_right _ hq
    have hlen : ((cs.drop (k / sz * sz)).take sz).length = sz := by rw [List.length_take, List.length_drop]; omega
    have h1 : cs[k]? = some (cs[k]'(by omega)) := List.getElem?_eq_getElem _
    rw [h1]
    unfold rowL
    conv => { rhs; rw [hkk] }
    refine (flat_at hf _ _ _ _ _ (by rw [List.getElem?_map, List.getElem?_range hq]; rfl) ?_).symm
    simp only []
    rw [dif_pos hlen]
    show ((cs.drop (k / sz * sz)).take sz)[k % sz]? = _
    rw [List.getElem?_take_of_lt hm, List.getElem?_drop, ← hkk, h1]
  · rw [List.getElem?_eq_none (by omega), List.getElem?_eq_none (by rw [rowL_len hf]; omega)]
/-- Elements, one by one. -/
theorem row_is {α β : Type} {f : α → List Value} {g : β → List Value} {n : Nat} {d : Nat → α} {l : List β} (hl : l.length = n) (h : ∀ (k : Nat) u, l[k]? = some u → f (d k) = g u) : rowL f n d = l.flatMap g := by
  unfold rowL
  rw [List.flatMap_def, List.flatMap_def]
  congr 1
  rw [List.map_map]
  apply List.ext_getElem?
  intro k
  rw [List.getElem?_map, List.getElem?_map]
  by_cases hk : k < n
  · rw [List.getElem?_range hk]
    have h1 : l[k]? = some (l[k]'(by omega)) := List.getElem?_eq_getElem _
    rw [h1]
    exact congrArg some (h k _ h1)
  · rw [List.getElem?_eq_none (by simpa using hk), List.getElem?_eq_none (by omega)]
    rfl

/-- A call that hands back nothing. -/
def ret0 (R : Hp → Prop) : Exit → Tm → Hp → Prop
  | .ret, _, H | .normal, _, H => R H
  | _, _, _ => False
theorem r0_ret {R : Hp → Prop} (h : R H) : ret0 R .ret t H := h
theorem r0_normal {R : Hp → Prop} (h : R H) : ret0 R .normal t H := h
theorem results_none {fn : Func} {w : World} {a : Array Value} (hr : fn.results = #[]) : (results fn a).run P w = .ok (.tuple #[]) w := by
  simp [results, hr, pure, Sem.run]
theorem callsH0 {B m : Nat} {w0 : World} {f : FuncId} {fn : Func} {c : Code} {args : List Value} {n : Nat} {K : Hp → Prop}
    (hf : P.funcs[f]? = some fn) (hb : fn.body = some c) (hn : fn.ntmps = n) (hl : Nat.ble args.length n = true) (hr : fn.results = #[])
    (h : aw P ⟨B, w0, n⟩ c (ret0 fun H' => ∃ H1, H1.Sublist H' ∧ K H1) (tm0 args) H) : CallsH P ⟨B, w0, m⟩ f args H fun u H' => u = .tuple #[] ∧ K H' := by
  refine callsH_of_aw hf hb hn hl h fun e a t' H' r1 q => ?_
  unfold ret0 at q
  cases e with
  | normal =>
    obtain ⟨H1, hs, hk⟩ := q
    exact ⟨.inl rfl, _, H1, H1, fun w' _ => results_none hr, hs, List.Perm.refl _, rfl, hk⟩
  | ret =>
    obtain ⟨H1, hs, hk⟩ := q
    exact ⟨.inr rfl, _, H1, H1, fun w' _ => results_none hr, hs, List.Perm.refl _, rfl, hk⟩
  | exit _ => exact q.elim
  | goto _ => exact q.elim
  | panic _ => exact q.elim
  | outgrown => exact q.elim
theorem callsF0 {B m : Nat} {w0 : World} {f : FuncId} {fn : Func} {c : Code} {args : List Value} {n : Nat} {l l' : Hp}
    (hf : P.funcs[f]? = some fn) (hb : fn.body = some c) (hn : fn.ntmps = n) (hl : Nat.ble args.length n = true) (hr : fn.results = #[])
    (h : ∀ R, aw P ⟨B, w0, n⟩ c (ret0 fun H' => (l' ++ R).Sublist H') (tm0 args) (l ++ R)) : CallsF P ⟨B, w0, m⟩ f args l (.tuple #[]) l' := fun R =>
  callsH0 hf hb hn hl hr (K := fun H' => H' = l' ++ R) (aw_mono (h R) fun e t H hq => by
    cases e with
    | normal => exact ⟨_, hq, rfl⟩
    | ret => exact ⟨_, hq, rfl⟩
    | exit _ => exact hq.elim
    | goto _ => exact hq.elim
    | panic _ => exact hq.elim
    | outgrown => exact hq.elim)
end
attribute [irreducible] rowL
end Sx
end Go.Proofs.Ytonhfddklkbnbaa
