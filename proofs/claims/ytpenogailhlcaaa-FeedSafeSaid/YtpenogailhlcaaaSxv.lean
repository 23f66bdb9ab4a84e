/- What single operations yield in the symbolic walk, over whatever program; conditions: none. -/
import Derived.Test.YtpenogailhlcaaaSx
namespace Go.Proofs.Ytpenogailhlcaaa
namespace Sx
open Go Go.RowKit

abbrev S (l : List UInt8) : Value := .string ⟨l.toArray⟩
abbrev I (n : Int) : Value := .int .i64 n

section
variable {P : Program} {E : Env} {t : Tm} {H : Hp} {ty : TypeId}

theorem ov_move {x : Operand} {v : Value} (hx : ev t x = some v) : OpV P E (.move x) ty t H v := by
  intro a w ht _ o ho _
  simp only [execOp, ho, ev_eval ht hx]; rfl
theorem ov_assign {x : Operand} {v : Value} (hx : ev t x = some v) : OpV P E (.assign x) ty t H v := by
  intro a w ht _ o ho _
  simp only [execOp, ho, ev_eval ht hx]; rfl
theorem ov_pick_t {c x y : Operand} {u v : Value} (hc0 : ev t c = some u) (hu : u = .bool true) (hx : ev t x = some v) : OpV P E (.pick c x y) ty t H v := by
  intro a w ht _ o ho _
  subst hu
  simp only [execOp, ho, ev_eval ht hc0, ev_eval ht hx]; rfl
theorem ov_pick_f {c x y : Operand} {u v : Value} (hc0 : ev t c = some u) (hu : u = .bool false) (hx : ev t y = some v) : OpV P E (.pick c x y) ty t H v := by
  intro a w ht _ o ho _
  subst hu
  simp only [execOp, ho, ev_eval ht hc0, ev_eval ht hx]; rfl

/-- A value out of a pure computation that does not touch the world. -/
theorem ov_of {op : Op} {v : Value} (h : ∀ a w, RepT E t a → RepH E H w → ∀ o : Oper, o.op = op → o.type = ty → ∃ s : Sem Value, execOp a.eval o = (do pure (.value (← s))) ∧ s.run P w = .ok v w) : OpV P E op ty t H v := by
  intro a w ht hh o ho hty
  obtain ⟨s, h1, h2⟩ := h a w ht hh o ho hty
  rw [h1, Sem.run_bind, h2]
  rfl

/-! Integers. -/
theorem ov_int {op : BinOp} {x y : Operand} {xt yt : TypeId} {k : IntKind} {p q : Int} {v : Value} (hx : ev t x = some (.int k p)) (hy : ev t y = some (.int k q))
    (h : ∀ w, (binOp op xt (.int k p) (.int k q)).run P w = .ok v w) : OpV P E (.binOp op xt x y yt) ty t H v := by
  refine ov_of fun a w ht _ o ho _ => ⟨_, by simp only [execOp, ho]; rfl, ?_⟩
  rw [ev_eval ht hx, ev_eval ht hy, Sem.run_bind]
  have : (eqGuard op xt x y (.int k p) (.int k q)).run P w = .ok () w := by
    unfold eqGuard
    split <;> rfl
  rw [this]
  exact h w

theorem ov_add {x y : Operand} {xt yt : TypeId} {k : IntKind} {p q : Int} (hx : ev t x = some (.int k p)) (hy : ev t y = some (.int k q)) : OpV P E (.binOp .add xt x y yt) ty t H (.int k (k.wrap (p + q))) :=
  ov_int hx hy fun w => by simp [binOp, Op.intArith]
theorem ov_sub {x y : Operand} {xt yt : TypeId} {k : IntKind} {p q : Int} (hx : ev t x = some (.int k p)) (hy : ev t y = some (.int k q)) : OpV P E (.binOp .sub xt x y yt) ty t H (.int k (k.wrap (p - q))) :=
  ov_int hx hy fun w => by simp [binOp, Op.intArith]
theorem ov_mul {x y : Operand} {xt yt : TypeId} {k : IntKind} {p q : Int} (hx : ev t x = some (.int k p)) (hy : ev t y = some (.int k q)) : OpV P E (.binOp .mul xt x y yt) ty t H (.int k (k.wrap (p * q))) :=
  ov_int hx hy fun w => by simp [binOp, Op.intArith]
theorem ov_quo {x y : Operand} {xt yt : TypeId} {k : IntKind} {p q : Int} (hx : ev t x = some (.int k p)) (hy : ev t y = some (.int k q)) (h0 : q ≠ 0) : OpV P E (.binOp .quo xt x y yt) ty t H (.int k (k.wrap (p.tdiv q))) :=
  ov_int hx hy fun w => by simp [binOp, Op.intDiv, h0]
theorem ov_rem {x y : Operand} {xt yt : TypeId} {k : IntKind} {p q : Int} (hx : ev t x = some (.int k p)) (hy : ev t y = some (.int k q)) (h0 : q ≠ 0) : OpV P E (.binOp .rem xt x y yt) ty t H (.int k (p.tmod q)) :=
  ov_int hx hy fun w => by simp [binOp, Op.intDiv, h0]
theorem ov_eql {x y : Operand} {xt yt : TypeId} {k : IntKind} {p q : Int} (hx : ev t x = some (.int k p)) (hy : ev t y = some (.int k q)) : OpV P E (.binOp .eql xt x y yt) ty t H (.bool (p == q)) :=
  ov_int hx hy fun w => by simp [binOp, Op.intCmp]
theorem ov_neq {x y : Operand} {xt yt : TypeId} {k : IntKind} {p q : Int} (hx : ev t x = some (.int k p)) (hy : ev t y = some (.int k q)) : OpV P E (.binOp .neq xt x y yt) ty t H (.bool (p != q)) :=
  ov_int hx hy fun w => by simp [binOp, Op.intCmp]
theorem ov_lss {x y : Operand} {xt yt : TypeId} {k : IntKind} {p q : Int} (hx : ev t x = some (.int k p)) (hy : ev t y = some (.int k q)) : OpV P E (.binOp .lss xt x y yt) ty t H (.bool (decide (p < q))) :=
  ov_int hx hy fun w => by simp [binOp, Op.intCmp]
theorem ov_leq {x y : Operand} {xt yt : TypeId} {k : IntKind} {p q : Int} (hx : ev t x = some (.int k p)) (hy : ev t y = some (.int k q)) : OpV P E (.binOp .leq xt x y yt) ty t H (.bool (decide (p ≤ q))) :=
  ov_int hx hy fun w => by simp [binOp, Op.intCmp]
theorem ov_gtr {x y : Operand} {xt yt : TypeId} {k : IntKind} {p q : Int} (hx : ev t x = some (.int k p)) (hy : ev t y = some (.int k q)) : OpV P E (.binOp .gtr xt x y yt) ty t H (.bool (decide (q < p))) :=
  ov_int hx hy fun w => by simp [binOp, Op.intCmp]
theorem ov_geq {x y : Operand} {xt yt : TypeId} {k : IntKind} {p q : Int} (hx : ev t x = some (.int k p)) (hy : ev t y = some (.int k q)) : OpV P E (.binOp .geq xt x y yt) ty t H (.bool (decide (q ≤ p))) :=
  ov_int hx hy fun w => by simp [binOp, Op.intCmp]

/-! Where the sum fits. -/
theorem ov_add_in {x y : Operand} {xt yt : TypeId} {p q : Int} (hx : ev t x = some (I p)) (hy : ev t y = some (I q)) (h : -9223372036854775808 ≤ p + q ∧ p + q ≤ 9223372036854775807) : OpV P E (.binOp .add xt x y yt) ty t H (I (p + q)) := by
  have := ov_add (P := P) (E := E) (H := H) (ty := ty) (xt := xt) (yt := yt) hx hy
  rwa [IntWalk.i64_in _ h] at this
theorem ov_sub_in {x y : Operand} {xt yt : TypeId} {p q : Int} (hx : ev t x = some (I p)) (hy : ev t y = some (I q)) (h : -9223372036854775808 ≤ p - q ∧ p - q ≤ 9223372036854775807) : OpV P E (.binOp .sub xt x y yt) ty t H (I (p - q)) := by
  have := ov_sub (P := P) (E := E) (H := H) (ty := ty) (xt := xt) (yt := yt) hx hy
  rwa [IntWalk.i64_in _ h] at this

/-! Bools and strings. -/
theorem ov_not {x : Operand} {xt : TypeId} {b : Bool} (hx : ev t x = some (.bool b)) : OpV P E (.unOp .not xt x) ty t H (.bool (!b)) := by
  refine ov_of fun a w ht _ o ho _ => ⟨_, by simp only [execOp, ho]; rfl, ?_⟩
  rw [ev_eval ht hx]; rfl
theorem ov_neg {x : Operand} {xt : TypeId} {k : IntKind} {n : Int} (hx : ev t x = some (.int k n)) : OpV P E (.unOp .neg xt x) ty t H (.int k (k.wrap (0 - n))) := by
  refine ov_of fun a w ht _ o ho _ => ⟨_, by simp only [execOp, ho]; rfl, ?_⟩
  rw [ev_eval ht hx]; rfl

theorem ov_str {op : BinOp} {x y : Operand} {xt yt : TypeId} {p q : List UInt8} {v : Value} (hx : ev t x = some (S p)) (hy : ev t y = some (S q))
    (h : ∀ w, (binOp op xt (S p) (S q)).run P w = .ok v w) : OpV P E (.binOp op xt x y yt) ty t H v := by
  refine ov_of fun a w ht _ o ho _ => ⟨_, by simp only [execOp, ho]; rfl, ?_⟩
  rw [ev_eval ht hx, ev_eval ht hy, Sem.run_bind]
  have : (eqGuard op xt x y (S p) (S q)).run P w = .ok () w := by
    unfold eqGuard
    split <;> rfl
  rw [this]
  exact h w
theorem ov_seql {x y : Operand} {xt yt : TypeId} {p q : List UInt8} (hx : ev t x = some (S p)) (hy : ev t y = some (S q)) : OpV P E (.binOp .eql xt x y yt) ty t H (.bool (p == q)) :=
  ov_str hx hy fun w => by simp [binOp, Op.stringOp, pure]
theorem ov_sneq {x y : Operand} {xt yt : TypeId} {p q : List UInt8} (hx : ev t x = some (S p)) (hy : ev t y = some (S q)) : OpV P E (.binOp .neq xt x y yt) ty t H (.bool (!(p == q))) :=
  ov_str hx hy fun w => by simp [binOp, Op.stringOp, pure]
theorem ov_slss {x y : Operand} {xt yt : TypeId} {p q : List UInt8} (hx : ev t x = some (S p)) (hy : ev t y = some (S q)) : OpV P E (.binOp .lss xt x y yt) ty t H (.bool (Op.bytesLess p q)) :=
  ov_str hx hy fun w => by simp [binOp, Op.stringOp, pure]
theorem bytes_append (p q : List UInt8) : (⟨p.toArray⟩ ++ ⟨q.toArray⟩ : ByteArray) = ⟨(p ++ q).toArray⟩ := by
  apply ByteArray.ext
  rw [ByteArray.data_append]
  simp
theorem ov_sadd {x y : Operand} {xt yt : TypeId} {p q : List UInt8} (hx : ev t x = some (S p)) (hy : ev t y = some (S q)) (h : p.length + q.length ≤ 9223372036854775807) : OpV P E (.binOp .add xt x y yt) ty t H (S (p ++ q)) :=
  ov_str hx hy fun w => by
    have h1 : (⟨p.toArray⟩ : ByteArray).size = p.length := rfl
    have h2 : (⟨q.toArray⟩ : ByteArray).size = q.length := rfl
    have h3 : ¬ ((((⟨p.toArray⟩ : ByteArray).size + (⟨q.toArray⟩ : ByteArray).size : Nat) : Int) > IntKind.i64.max) := by
      rw [h1, h2]
      have : IntKind.i64.max = 9223372036854775807 := by decide
      rw [this]
      omega
    simp only [binOp, Op.stringOp]
    rw [if_neg h3, bytes_append]
    rfl
theorem ov_len {x : Operand} {at_ : TypeId} {l : List UInt8} [TyU P at_ .string] (hx : ev t x = some (S l)) : OpV P E (.call ⟨.builtin .len, #[x], #[at_]⟩) ty t H (I l.length) := by
  intro a w ht _ o ho _
  have hu := TyU.und (P := P) (t := at_)
  simp [execOp, ho, resolve, invoke, builtin, Builtin.len_, ev_eval ht hx, run_underlying hu, Sem.run, pure, goInt]
  rfl
theorem ov_sindex {x y : Operand} {xt : TypeId} {l : List UInt8} {k : IntKind} {i : Int} {j : Nat} {c : UInt8} [TyU P xt .string] (hx : ev t x = some (S l)) (hy : ev t y = some (.int k i))
    (hc : l[j]? = some c) (hi : i = (j : Int)) : OpV P E (.index xt x y) ty t H (.int .u8 c.toNat) := by
  subst hi
  refine ov_of fun a w ht _ o ho _ => ⟨_, by simp only [execOp, ho]; rfl, ?_⟩
  rw [ev_eval ht hx, ev_eval ht hy]
  have hu := TyU.und (P := P) (t := xt)
  have hlt := (List.getElem?_eq_some_iff.1 hc).1
  have hg : (⟨l.toArray⟩ : ByteArray)[j]? = some c := by
    have hs : j < (⟨l.toArray⟩ : ByteArray).size := hlt
    rw [getElem?_pos (⟨l.toArray⟩ : ByteArray) j hs]
    have := (List.getElem?_eq_some_iff.1 hc).2
    rw [← this]; rfl
  simp [Instr.index, asIntOf, run_underlying hu, Sem.run, pure, hg]
theorem ov_sslice {x : Operand} {xt : TypeId} {l : List UInt8} {lo hi : Option Operand} {i j : Nat} [TyU P xt .string] (hx : ev t x = some (S l))
    (h : ∀ a w, RepT E t a → (Instr.sliceBounds false l.length l.length (lo.map a.eval) (hi.map a.eval) none).run P w = .ok (i, j, l.length) w) : OpV P E (.slice xt x lo hi none) ty t H (S ((l.drop i).take (j - i))) := by
  refine ov_of fun a w ht _ o ho _ => ⟨_, by simp only [execOp, ho]; rfl, ?_⟩
  rw [ev_eval ht hx]
  have hu := TyU.und (P := P) (t := xt)
  have h1 : (⟨l.toArray⟩ : ByteArray).size = l.length := rfl
  have h2 : (⟨l.toArray⟩ : ByteArray).extract i j = ⟨((l.drop i).take (j - i)).toArray⟩ := by
    apply ByteArray.ext
    rw [ByteArray.data_extract]
    simp
  simp [Instr.sliceAt, Instr.slice, run_underlying hu, h1, h a w ht, h2, Sem.run, pure]

theorem ov_extract {x : Operand} {i : Nat} {vs : List Value} {v : Value} (hx : ev t x = some (.tuple vs.toArray)) (hv : vs[i]? = some v) : OpV P E (.extract x i) ty t H v := by
  refine ov_of fun a w ht _ o ho _ => ⟨_, by simp only [execOp, ho]; rfl, ?_⟩
  rw [ev_eval ht hx]
  simp [Instr.extract, hv]
end
end Sx
end Go.Proofs.Ytpenogailhlcaaa
