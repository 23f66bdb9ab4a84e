/- Package-level variables, labels and scopes, elements of array values, plain data as cells; conditions: none. -/
import Derived.Test.YtpenogailhlcaaaSxe
import Derived.Test.YtpenogailhlcaaaSxd
import Derived.Scope
import Derived.WalkSmall
import Derived.LaidLaws
import Derived.Lib.LaidTab
import Derived.Sort.Grow
import Derived.Deep.Draws
import Derived.OpenShut
namespace Go.Proofs.Ytpenogailhlcaaa
namespace Sx
open Go Go.RowKit

section
variable {P : Program} {E : Env} {Q : Exit → Tm → Hp → Prop} {t : Tm} {H : Hp}
theorem aw_label {l : Nat} (h : Q .normal t H) : aw P E (.label l) Q t H := by
  unfold aw
  exact fun _ _ _ _ _ _ hx ht hh => wpIn_label (post0 hx ht hh h)

/-- No jump goes out. -/
def noGo (Q : Exit → Tm → Hp → Prop) : Exit → Tm → Hp → Prop
  | .goto _, _, _ => False
  | e, t, H => Q e t H
theorem ng_normal (h : Q .normal t H) : noGo Q .normal t H := h
theorem ng_ret (h : Q .ret t H) : noGo Q .ret t H := h
theorem ng_exit {id : Nat} (h : Q (.exit id) t H) : noGo Q (.exit id) t H := h
theorem stepR_scope {P : Program} {b : Frame} {a : Act} {k : List Item} {cs : List Frame} {w : World} {c : Code} : step P (lone (b.atR a (.code (.scope c) :: k)) cs w) = .next (lone (b.atR a (.code c :: .inScope c :: k)) cs w) :=
  step_lone_go (by simp [stepG, stepG.exec, Frame.atR])
theorem stepR_inScope {P : Program} {b : Frame} {a : Act} {k : List Item} {cs : List Frame} {w : World} {c : Code} : step P (lone (b.atR a (.inScope c :: k)) cs w) = .next (lone (b.atR a k) cs w) :=
  step_lone_go (by simp [stepG, stepG.exec, Frame.atR])
theorem wpIn_scope {F : Fence} {n : Nat} {P : Program} {Q : Exit → Act → World → Prop} {a : Act} {w : World} {c : Code} (h : c.wpIn F n P (Exit.noGoto Q) a w) : (Code.scope c).wpIn F n P Q a w := by
  intro b k cs hro hb hr
  have h0 : (lone (b.atR a (.code (.scope c) :: k)) cs w).fenced P F := fenced_calm hb hr rfl
  obtain ⟨e, a₁, w₁, hq, harr⟩ := h b (.inScope c :: k) cs hro hb hr
  cases e with
  | normal => exact ⟨.normal, a₁, w₁, hq, .head h0 stepR_scope (StepsIn.trans harr (.one (fenced_calm hb hr rfl) stepR_inScope))⟩
  | exit id =>
    have hx : exitTo id (.inScope c :: k) = exitTo id k := by simp [exitTo]
    exact ⟨_, a₁, w₁, hq, fun k' hk => .head h0 stepR_scope (harr.1 k' (by rw [hx]; exact hk)),
      fun hr' hk => let ⟨k₁, h1, h2⟩ := harr.2 hr' (by rw [hx]; exact hk); ⟨k₁, h1, .head h0 stepR_scope h2⟩⟩
  | goto l => exact hq.elim
  | ret => exact ⟨_, a₁, w₁, hq, .of_steps (.one h0 stepR_scope) harr⟩
  | panic ch => exact ⟨_, a₁, w₁, hq, .of_steps (.one h0 stepR_scope) harr⟩
  | outgrown => exact ⟨_, a₁, w₁, hq, .of_steps (.one h0 stepR_scope) harr⟩
theorem aw_scope {c : Code} (h : aw P E c (noGo Q) t H) : aw P E (.scope c) Q t H := by
  unfold aw at h ⊢
  intro rd ok ex hid a w hx ht hh
  refine wpIn_scope (wpIn_mono (h rd ok ex hid a w hx ht hh) fun e a w hq => ?_)
  obtain ⟨ms, t', H', r1, rx, r2, q⟩ := hq
  cases e with
  | goto l => exact q.elim
  | _ => exact ⟨ms, t', H', r1, rx, r2, q⟩
end
attribute [irreducible] noGo

/-! A package-level variable that lies where it lay. -/
def Glob (w : World) (g : Nat) (xs : List Value) : Prop := g < w.heap.size ∧ ∀ (j : Nat) v, xs[j]? = some v → w.cell? ⟨g, j, none⟩ = some v
theorem Glob.below {w w' : World} {g : Nat} {xs : List Value} (h : Glob w g xs) (hb : Below w.heap.size w w') : Glob w' g xs :=
  ⟨Nat.lt_of_lt_of_le h.1 hb.size, fun j v hj => (hb.cell (p := ⟨g, j, none⟩) h.1).trans (h.2 j v hj)⟩

section
variable {P : Program} {E : Env} {ty : TypeId} {t : Tm} {H : Hp}
/-- A load of a whole package-level array or struct. -/
theorem ov_load_ga {x : Operand} {lt : TypeId} {n g off : Nat} {xs vs : List Value} [TyA P lt n] (hx : ev t x = some (.pointer (some ⟨g, off, none⟩))) (hG : Glob E.w0 g xs) (hB : E.B = E.w0.heap.size) (hs : sl off n xs = some vs) :
    OpV P E (.load lt x) ty t H (.agg vs.toArray) := by
  obtain ⟨hv, hl⟩ := sl_spec _ _ _ _ hs
  refine ov_load_oa hx (by rw [hB]; exact hG.1) (fun j v hj => hG.2 _ _ ?_) hl
  subst hv
  have hlt := (List.getElem?_eq_some_iff.1 hj).1
  simp only [List.length_take] at hlt
  rw [List.getElem?_take_of_lt (by omega), List.getElem?_drop] at hj
  exact hj
/-- A load of one cell of it. -/
theorem ov_load_g {x : Operand} {lt : TypeId} {g off : Nat} {xs : List Value} {v : Value} [TyC P lt] (hx : ev t x = some (.pointer (some ⟨g, off, none⟩))) (hG : Glob E.w0 g xs) (hB : E.B = E.w0.heap.size) (hs : xs[off]? = some v) :
    OpV P E (.load lt x) ty t H v := ov_load_o hx (by rw [hB]; exact hG.1) (hG.2 _ _ hs)

theorem run_part_list {e : TypeId} {n off : Nat} {cs vs : List Value} [TyA P e n] (hv : (cs.drop off).take n = vs) (w : World) : (part e cs.toArray off).run P w = .ok (.agg vs.toArray) w := by
  have h1 := TyA.agg (P := P) (t := e) (n := n)
  have h2 := TyA.size (P := P) (t := e) (n := n)
  subst hv
  simp only [part, Sem.run_bind, run_isAgg h1.1 h1.2, run_sizeOf h2, Result.andThen, if_true, pure, Sem.run]
  congr 2
  simp

/-- An element, a struct, of an array value. -/
theorem ov_aindex {x i : Operand} {xt e : TypeId} {k : IntKind} {len n j : Nat} {z : Int} {cs vs : List Value} [TyArr P xt len e] [TyA P e n] (hx : ev t x = some (.agg cs.toArray)) (hy : ev t i = some (.int k z)) (hi : z = (j : Int)) (hj : j < len)
    (hv : (cs.drop (j * n)).take n = vs) : OpV P E (.index xt x i) ty t H (.agg vs.toArray) := by
  refine ov_of fun a w ht hh o ho _ => ⟨_, by simp only [execOp, ho]; rfl, ?_⟩
  subst hi
  have hu := TyArr.arr (P := P) (t := xt) (len := len) (e := e)
  have hs := TyA.size (P := P) (t := e) (n := n)
  have hp := run_part_list (P := P) (e := e) hv w
  have h0 : (0 : Int) ≤ (j : Int) ∧ (j : Int) < (len : Int) := ⟨by omega, by omega⟩
  rw [ev_eval ht hx, ev_eval ht hy]
  simp only [Instr.index, asIntOf, Sem.run_bind, run_underlying hu, Result.andThen, pure_bind, if_pos h0, run_sizeOf hs, Int.toNat_natCast, hp]
end

/-! Plain data (bools, integers, strings, arrays and structs of such): the cells that it lies in. -/
def tile (P : Program) (g : TypeId → DataW Unit → Option (List Value)) : Nat → List (Nat × TypeId) → List (DataW Unit) → Option (List Value)
  | _, [], [] => some []
  | pos, (off, e) :: r, d :: ds =>
    match Nat.beq off pos, g e d with
    | true, some l =>
      match Nat.beq l.length (P.cellsOf e), tile P g (pos + l.length) r ds with
      | true, some rest => some (l ++ rest)
      | _, _ => none
    | _, _ => none
  | _, _, _ => none
def flatD (P : Program) : Nat → TypeId → DataW Unit → Option (List Value)
  | 0, _, _ => none
  | f + 1, t, d =>
    match P.underlying t, d with
    | some .bool, .lit (.bool b) => some [.bool b]
    | some (.int _), .lit (.int k n) => some [.int k n]
    | some .string, .lit (.string s) => some [.string ⟨⟨s⟩⟩]
    | some (.array n e), .agg ds => (tile P (flatD P f) 0 ((List.range n).map fun i => (i * P.cellsOf e, e)) ds).bind fun out => if Nat.beq out.length (P.cellsOf t) then some out else none
    | some (.struct fs), .agg ds => (tile P (flatD P f) 0 (fs.toList.map fun x => (x.offset, x.type)) ds).bind fun out => if Nat.beq out.length (P.cellsOf t) then some out else none
    | _, _ => none

theorem tile_spec {P : Program} {g : TypeId → DataW Unit → Option (List Value)} {cs : List Value} : ∀ (ps : List (Nat × TypeId)) (ds : List (DataW Unit)) (pos : Nat) (out : List Value),
    tile P g pos ps ds = some out → (∀ (i : Nat) off e d l, ps[i]? = some (off, e) → ds[i]? = some d → g e d = some l → (cs.drop off).take (P.cellsOf e) = l) → (cs.drop pos).take out.length = out
  | [], [], pos, out, h, _ => by simp only [tile, Option.some.injEq] at h; subst h; simp
  | (off, e) :: r, d :: ds, pos, out, h, hp => by
    simp only [tile] at h
    cases hb : Nat.beq off pos with
    | false => rw [hb] at h; simp at h
    | true =>
      have ho := Nat.eq_of_beq_eq_true hb
      subst ho
      cases hg : g e d with
      | none => rw [hb, hg] at h; simp at h
      | some l =>
        rw [hb, hg] at h
        simp only at h
        cases hb2 : Nat.beq l.length (P.cellsOf e) with
        | false => rw [hb2] at h; simp at h
        | true =>
          have hl := Nat.eq_of_beq_eq_true hb2
          cases hr : tile P g (off + l.length) r ds with
          | none => rw [hb2, hr] at h; simp at h
          | some rest =>
            rw [hb2, hr] at h
            simp only [Option.some.injEq] at h
            subst h
            have h1 := hp 0 off e d l rfl rfl hg
            have h2 := tile_spec r ds _ _ hr fun i o e' d' l' a b c => hp (i + 1) o e' d' l' (by simpa using a) (by simpa using b) c
            rw [List.length_append, List.take_add, List.drop_drop, h2, hl, h1]
  | [], _ :: _, _, _, h, _ => by simp [tile] at h
  | _ :: _, [], _, _, h, _ => by simp [tile] at h

theorem flat_of_trod {P : Program} {w : World} : ∀ (f fuel : Nat) (t : TypeId) (cs : List Value) (d : DataW Unit) (p : List MemPlace) (out : List Value),
    DataW.trod (fun _ => ()) P w 0 (fun _ => true) false fuel t cs = some (d, p) → flatD P f t d = some out → cs = out := by
  intro f
  induction f with
  | zero => intro fuel t cs d p out _ h; simp [flatD] at h
  | succ f ih =>
    intro fuel t cs d p out ht h
    simp only [flatD] at h
    split at h
    · rename_i hu
      obtain ⟨b, rfl, hx⟩ := DataW.trod_bool hu ht
      simp only [Prod.mk.injEq, DataW.lit.injEq, Lit.bool.injEq] at hx
      simp only [Option.some.injEq] at h
      rw [← h, hx.1]
    · rename_i hu
      obtain ⟨b, rfl, hx, _⟩ := DataW.trod_int hu ht
      simp only [Prod.mk.injEq, DataW.lit.injEq, Lit.int.injEq] at hx
      simp only [Option.some.injEq] at h
      rw [← h, hx.1.1, hx.1.2]
    · rename_i hu
      obtain ⟨b, rfl, hx, _⟩ := DataW.trod_string hu ht
      simp only [Prod.mk.injEq, DataW.lit.injEq, Lit.string.injEq] at hx
      simp only [Option.some.injEq] at h
      rw [← h, hx.1]
    · rename_i n e ds hu
      obtain ⟨xs, m, rfl, hx, hl, hxl, hall⟩ := DataW.trod_array hu ht
      simp only [Prod.mk.injEq, DataW.agg.injEq] at hx
      obtain ⟨rfl, -⟩ := hx
      obtain ⟨o, ho, h⟩ := Option.bind_eq_some_iff.1 h
      split at h
      · rename_i hb
        have hb := Nat.eq_of_beq_eq_true hb
        simp only [Option.some.injEq] at h
        subst h
        have := tile_spec (cs := cs) _ _ _ _ ho fun i off e' d l h1 h2 h3 => by
          simp only [List.getElem?_map, Option.map_eq_some_iff, Prod.mk.injEq] at h1 h2
          obtain ⟨j, hj, rfl, rfl⟩ := h1
          obtain ⟨⟨d', q⟩, hd, rfl⟩ := h2
          have hi : i < n := by have := (List.getElem?_eq_some_iff.1 hj).1; simpa using this
          rw [List.getElem?_range hi] at hj
          cases hj
          exact ih _ _ _ _ _ _ ((hall i hi).trans hd) h3
        rw [hb, ← hl] at this
        simpa using this
      · cases h
    · rename_i fs ds hu
      obtain ⟨xs, m, rfl, hx, hl, hxl, hall⟩ := DataW.trod_struct hu ht
      simp only [Prod.mk.injEq, DataW.agg.injEq] at hx
      obtain ⟨rfl, -⟩ := hx
      obtain ⟨o, ho, h⟩ := Option.bind_eq_some_iff.1 h
      split at h
      · rename_i hb
        have hb := Nat.eq_of_beq_eq_true hb
        simp only [Option.some.injEq] at h
        subst h
        have := tile_spec (cs := cs) _ _ _ _ ho fun i off e' d l h1 h2 h3 => by
          simp only [List.getElem?_map, Option.map_eq_some_iff, Prod.mk.injEq] at h1 h2
          obtain ⟨j, hj, rfl, rfl⟩ := h1
          obtain ⟨⟨d', q⟩, hd, rfl⟩ := h2
          exact ih _ _ _ _ _ _ ((hall i j (by simpa using hj)).trans hd) h3
        rw [hb, ← hl] at this
        simpa using this
      · cases h
    · cases h

/-- What a row's condition on package-level variables says of one that is plain. -/
theorem glob_of_laid {P : Program} {w : World} {n : String} {d : DataW Unit} {g : Nat} {t : TypeId} {f : Nat} {xs : List Value} (hg : P.globalNamed n = some g) (hty : (P.globals[g]?).map (·.type) = some t)
    (hd : flatD P f t d = some xs) : ∀ {l : List (String × DataW Unit)} {ps : List MemPlace}, DataW.LaidVars P w l ps → (n, d) ∈ l → w.var? P n = some xs.toArray ∧ (0 < xs.length → Glob w g xs)
  | (n', d') :: r, ps, h, hm => by
    obtain ⟨g', t', cs, fuel, p, q, h1, h2, h3, h4, h5, _⟩ := h
    rcases List.mem_cons.1 hm with e | hm
    · cases e
      obtain rfl := Option.some.inj (hg.symm.trans h1)
      obtain rfl := Option.some.inj (hty.symm.trans h2)
      have he := flat_of_trod _ _ _ _ _ _ _ h4 hd
      have hv : w.var? P n = some xs.toArray := by rw [h3, ← he]
      refine ⟨hv, fun h0 => ⟨?_, fun j v hj => ?_⟩⟩
      · have hc := World.var?_cell hg hv 0
        cases Nat.lt_or_ge g w.heap.size with
        | inl h => exact h
        | inr h =>
          exfalso
          simp only [World.var?, hg, Option.bind_some] at hv
          rw [Array.getElem?_eq_none h] at hv
          cases hv
      · rw [World.var?_cell hg hv j]
        simpa using hj
    · exact glob_of_laid hg hty hd h5 hm
end Sx
end Go.Proofs.Ytpenogailhlcaaa
