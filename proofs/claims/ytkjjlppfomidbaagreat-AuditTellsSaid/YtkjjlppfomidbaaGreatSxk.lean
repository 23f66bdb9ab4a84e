/- Slices of plain structs that come in: what their cells are, as a list of rows; conditions: none. -/
import Derived.Test.YtkjjlppfomidbaaGreatFrame
import Derived.Test.YtkjjlppfomidbaaGreatSxz
import Derived.ChangeArms
import Derived.Laws.CopyRow
/- Osl: Slices of plain structs that come in: what their cells are, as a list of rows; conditions: none. -/
namespace Go.Proofs.YtkjjlppfomidbaaGreat
namespace Sx
open Go Go.RowKit
def fitsD : TypeDesc → Value → Prop
  | .string, v => ∃ l : List UInt8, v = S l
  | .int k, v => ∃ n, v = .int k n ∧ k.min ≤ n ∧ n ≤ k.max
  | .bool, v => ∃ b, v = .bool b
  | _, _ => False
def FitL : List TypeDesc → List Value → Prop
  | [], [] => True
  | d :: ds, v :: vs => fitsD d v ∧ FitL ds vs
  | _, _ => False
theorem FitL.len : ∀ {ds : List TypeDesc} {vs : List Value}, FitL ds vs → vs.length = ds.length
  | [], [], _ => rfl
  | d :: ds, v :: vs, h => by simp [FitL.len h.2]
  | [], _ :: _, h => h.elim
  | _ :: _, [], h => h.elim
theorem FitL.app : ∀ {ds es : List TypeDesc} {vs us : List Value}, FitL ds vs → FitL es us → FitL (ds ++ es) (vs ++ us)
  | [], _, [], _, _, h => h
  | _ :: _, _, _ :: _, _, h, g => ⟨h.1, FitL.app h.2 g⟩
  | [], _, _ :: _, _, h, _ => h.elim
  | _ :: _, _, [], _, h, _ => h.elim
section
variable {H : Type} {enc : TypeId × Value → H} {P : Program} {w : World} {sp : Nat → Bool} {held : Bool}
theorem shpF_fit {f n : Nat} {cs : List Value} (ih : ∀ (t : TypeId) ds, shp P f t = some ds → ∀ us (x : DataW H × List MemPlace), P.cellsOf t = ds.length → DataW.trod enc P w 0 sp held n t us = some x → FitL ds us) :
    ∀ (fs : List Field) (pos : Nat) (ds : List TypeDesc), shpF P (shp P f) pos fs = some ds → (∀ (i : Nat) (x : Field), fs[i]? = some x → ∃ y, DataW.trod enc P w 0 sp held n x.type ((cs.drop x.offset).take (P.cellsOf x.type)) = some y) →
    FitL ds ((cs.drop pos).take ds.length)
  | [], pos, ds, h, _ => by
    simp only [shpF, Option.some.injEq] at h
    subst h
    simp [FitL]
  | x :: fs, pos, ds, h, hall => by
    unfold shpF at h
    split at h
    · rename_i ds0 hnm hof hg
      split at h
      · rename_i hsz
        cases hr : shpF P (shp P f) (pos + ds0.length) fs with
        | none => rw [hr] at h; cases h
        | some r =>
          rw [hr] at h
          simp only [Option.some.injEq] at h
          subst h
          have ho := Nat.eq_of_beq_eq_true hof
          simp only [Bool.and_eq_true, beq_iff_eq] at hsz
          have hc : P.cellsOf x.type = ds0.length := by unfold Program.cellsOf; rw [hsz.1]; rfl
          obtain ⟨y, hy⟩ := hall 0 x rfl
          rw [hc, ho] at hy
          have h1 := ih x.type ds0 hg _ _ hc hy
          have h2 := shpF_fit ih fs _ r hr fun i z hz => hall (i + 1) z (by simpa using hz)
          rw [List.length_append, List.take_add, List.drop_drop]
          exact h1.app h2
      · cases h
    · cases h
theorem flat_fit : ∀ (f fuel : Nat) (t : TypeId) (ds : List TypeDesc), shp P f t = some ds → ∀ (cs : List Value) (x : DataW H × List MemPlace), P.cellsOf t = ds.length → DataW.trod enc P w 0 sp held fuel t cs = some x → FitL ds cs
  | 0, _, _, _, h => by simp [shp] at h
  | f + 1, fuel, t, ds, h => by
    intro cs x hn hd
    unfold shp at h
    split at h
    · rename_i fs hu
      split at h
      · cases h
      · obtain ⟨xs, m, rfl, -, hl, hxl, hall⟩ := DataW.trod_struct hu hd
        have := shpF_fit (cs := cs) (n := m) (fun t' ds' h' us y hc hy => flat_fit f m t' ds' h' us y hc hy) fs.toList 0 ds h fun i z hz => by
          have hz' : fs[i]? = some z := by simpa using hz
          have hi : i < xs.length := by rw [hxl]; exact (Array.getElem?_eq_some_iff.1 hz').1
          exact ⟨xs[i], (hall i z hz').trans (List.getElem?_eq_getElem hi)⟩
        rw [← hn, ← hl] at this
        simpa using this
    · rename_i hu
      cases h
      obtain ⟨b, rfl, -⟩ := DataW.trod_bool hu hd
      exact ⟨⟨b, rfl⟩, trivial⟩
    · rename_i k hu
      cases h
      obtain ⟨n, rfl, -, hw⟩ := DataW.trod_int hu hd
      simp only [Lit.wf, Bool.and_eq_true, decide_eq_true_eq] at hw
      exact ⟨⟨n, rfl, hw⟩, trivial⟩
    · rename_i hu
      cases h
      obtain ⟨s, rfl, -, -⟩ := DataW.trod_string hu hd
      exact ⟨⟨s.data.toList, rfl⟩, trivial⟩
    · cases h
end
end Sx
end Go.Proofs.YtkjjlppfomidbaaGreat
/- Sxo: Slices made and copied; calls that hand back a value that holds a row; struct arguments that hold slices; conditions: none. -/
namespace Go.Proofs.YtkjjlppfomidbaaGreat
namespace Sx
open Go Go.RowKit
section
variable {P : Program} {E : Env} {kd : Bool} {Q : Exit → Tm → Hp → Prop} {t : Tm} {H : Hp} {ops : Array Oper} {rest : List Oper}
theorem ao_make {d : Nat} {x y : Operand} {mt ty2 e : TypeId} {sz by_ n : Nat} {pos : String} {af : Array Edge} {gd : Option (Nat × Bool)} [TySl P mt e sz by_]
    (hw : Wants ops t gd) (hx : ev t x = some (I (n : Int))) (hy : ev t y = some (I (n : Int))) (hb : by_ * n ≤ 281474976710656) (hn : n ≤ 9223372036854775807) (hd : Nat.blt d E.n = true)
    (h : ∀ (b : Nat) (cs : List Value), cs.length = n * sz → ao kd P E ops Q rest ((d, .slice (some ⟨b, 0, none⟩) n n) :: t) ((b, .cells cs.toArray e (0, 0)) :: H)) :
    ao kd P E ops Q (⟨some d, .makeSlice mt x y, ty2, pos, af, gd⟩ :: rest) t H := by
  obtain ⟨i, z, hu, hi, hz, hsz, hby, hzs⟩ := TySl.sl (P := P) (t := mt)
  refine ao_new hw (o := .cells (madeCells z.cells (n * i.size)) e (0, 0)) (v := fun b => .slice (some ⟨b, 0, none⟩) n n) ?_ hd fun b => ?_
  · intro a w ht _ o ho _
    have hb' : (i.bytes : Int) * (n : Int) ≤ 281474976710656 := by
      have h : ((i.bytes * n : Nat) : Int) ≤ 281474976710656 := by rw [hby]; omega
      rwa [Int.natCast_mul] at h
    have hr := run_make (P := P) w mt e i z hu hi hz .i64 .i64 (n : Int) (n : Int) (by omega) (Int.le_refl _) hb' (by omega)
    simp only [Int.toNat_natCast] at hr
    simp only [execOp, ho, ev_eval ht hx, ev_eval ht hy, Sem.run_bind, hr, Result.andThen, pure, Sem.run]
  · exact h b (madeCells z.cells (n * i.size)).toList (by simp [madeCells, hsz])
end
def fieldAt (P : Program) (t : TypeId) (i : Nat) : Option (TypeId × Nat) :=
  match P.underlying t with
  | some (.struct fs) => fs[i]?.map fun f => (f.type, f.offset)
  | _ => none
end Sx
end Go.Proofs.YtkjjlppfomidbaaGreat
/- Sxj: Arguments that hold slices of anything: what their cells are, element by element; conditions: none. -/
namespace Go.Proofs.YtkjjlppfomidbaaGreat
namespace Sx
open Go Go.RowKit
section
variable {H : Type} {enc : TypeId × Value → H} {P : Program} {w : World} {sp : Nat → Bool} {held : Bool}
theorem cell_plain {a : Addr} {v : Value} (h : w.cell? a = some v) : a.spot = none ∧ a.block < w.heap.size := by
  unfold World.cell? at h
  split at h
  · rename_i hb
    refine ⟨?_, (Array.getElem?_eq_some_iff.1 hb).1⟩
    split at h
    · cases h
    · rename_i hs
      cases hq : a.spot
      · rfl
      · rw [hq] at hs; exact absurd rfl hs
  · cases h
theorem open_slice_g {α : Type} {f : α → List Value} {sz fuel : Nat} {Q : α → Prop} {t e : TypeId} {v : Value} {x : DataW H × List MemPlace} (hu : P.underlying t = some (.slice e)) (hc : P.cellsOf e = sz) (hz : 0 < sz) (hf : ∀ a, (f a).length = sz)
    (hfit : ∀ (fuel : Nat) c x, DataW.trod enc P w 0 sp held fuel e c = some x → ∃ a, c = f a ∧ Q a) (hd : DataW.trod enc P w 0 sp held fuel t [v] = some x) :
    ∃ us : List α, OldCap w sz v us.length (us.flatMap f) ∧ ∀ a ∈ us, Q a := by
  rcases DataW.trod_slice hu hd with ⟨h0, -⟩ | ⟨a, len, cap, elems, rest, n, -, hcs, -, -, hlc, -, hel, hall, -⟩
  · cases h0
    exact ⟨[], ⟨OldRow.nil, fun a k c h => by cases h; exact Nat.le_refl _⟩, fun a h => by simp at h⟩
  · cases hcs
    have key : ∀ k, k ≤ len → ∃ us : List α, us.length = k ∧ (∀ a ∈ us, Q a) ∧ ∀ (i : Nat) (b : α), us[i]? = some b → ∀ (j : Nat) u, (f b)[j]? = some u → w.cell? ((a.add (i * sz)).add j) = some u := by
      intro k
      induction k with
      | zero => exact fun _ => ⟨[], rfl, fun a h => by simp at h, fun i a h => by simp at h⟩
      | succ k ih =>
        intro hk
        obtain ⟨us, h1, h2, h3⟩ := ih (by omega)
        have hE := hall k (by omega)
        rw [List.getElem?_eq_getElem (show k < elems.length by omega)] at hE
        obtain ⟨cs, hcs, hcd⟩ := Option.bind_eq_some_iff.1 hE
        obtain ⟨b, rfl, hpb⟩ := hfit _ cs _ hcd
        obtain ⟨-, hcl, hcell⟩ := World.cells?_some hcs
        refine ⟨us ++ [b], by simp [h1], fun c hb => ?_, fun i c hb j u hj => ?_⟩
        · rcases List.mem_append.1 hb with hb | hb
          · exact h2 c hb
          · obtain rfl : c = b := by simpa using hb
            exact hpb
        · by_cases hi : i < us.length
          · rw [List.getElem?_append_left hi] at hb
            exact h3 i c hb j u hj
          · rw [List.getElem?_append_right (by omega)] at hb
            have hi0 : i - us.length = 0 := by have := (List.getElem?_eq_some_iff.1 hb).1; simp at this; omega
            rw [hi0] at hb
            simp only [List.getElem?_cons_zero, Option.some.injEq] at hb
            subst hb
            have hjl := (List.getElem?_eq_some_iff.1 hj).1
            rw [hf] at hjl
            have := hcell j (by rw [hc]; exact hjl)
            rw [hj, hc] at this
            rw [show i = k by omega]
            exact this
    obtain ⟨us, h1, h2, h3⟩ := key len (Nat.le_refl _)
    refine ⟨us, ⟨⟨flat_len hf us, some a, cap, by rw [h1], fun h0 => ?_⟩, fun a k c h => by cases h; exact hlc⟩, h2⟩
    obtain ⟨b, hb⟩ : ∃ b, us[0]? = some b := ⟨_, List.getElem?_eq_getElem h0⟩
    obtain ⟨u, hu0⟩ : ∃ u, (f b)[0]? = some u := ⟨_, List.getElem?_eq_getElem (by rw [hf]; exact hz)⟩
    have hfirst := h3 0 b hb 0 u hu0
    rw [Nat.zero_mul] at hfirst
    have hplain := cell_plain (show w.cell? a = some u from hfirst)
    obtain ⟨g, o, s⟩ := a
    simp only at hplain
    obtain ⟨hs, hg⟩ := hplain
    subst hs
    refine ⟨g, o, rfl, hg, fun j u hj => ?_⟩
    obtain ⟨i, r', b', rfl, hi, hr⟩ := flat_at_inv hf us j u hj
    have := h3 i b' hi r' u hr
    rw [add_off, add_off, Nat.add_assoc] at this
    exact this
theorem slice_cell {W : World} {r : Reach} {base : Nat} {t e : TypeId} {v : Value} (hu : P.underlying t = some (.slice e)) (h : Cell.okWide P W r base t v) : ∃ a n c, v = .slice a n c := by
  unfold Cell.okWide at h
  rw [hu] at h
  cases v <;> first | exact ⟨_, _, _, rfl⟩ | (simp [Cell.ok, hu] at h)
theorem open_struct_part {fuel : Nat} {t : TypeId} {cs : List Value} {x : DataW H × List MemPlace}
    (hd : DataW.trod enc P w 0 sp held fuel t cs = some x) {i : Nat} {e : TypeId} {o : Nat} (hf : fieldAt P t i = some (e, o)) :
    ∃ fuel' y, DataW.trod enc P w 0 sp held fuel' e ((cs.drop o).take (P.cellsOf e)) = some y := by
  unfold fieldAt at hf
  split at hf
  · rename_i fs hu
    obtain ⟨f, hf2, hq⟩ := Option.map_eq_some_iff.1 hf
    cases hq
    obtain ⟨xs, n, -, -, -, hl, hall⟩ := DataW.trod_struct hu hd
    have := hall i f hf2
    have hlt : i < xs.length := by rw [hl]; exact (Array.getElem?_eq_some_iff.1 hf2).1
    rw [List.getElem?_eq_getElem hlt] at this
    exact ⟨n, _, this⟩
  · cases hf
theorem struct_len {fuel : Nat} {t : TypeId} {cs : List Value} {x : DataW H × List MemPlace}
    (hd : DataW.trod enc P w 0 sp held fuel t cs = some x) {i : Nat} {e : TypeId} {o : Nat} (hf : fieldAt P t i = some (e, o)) : cs.length = P.cellsOf t := by
  unfold fieldAt at hf
  split at hf
  · rename_i fs hu
    obtain ⟨xs, n, -, -, h, -⟩ := DataW.trod_struct hu hd
    exact h
  · cases hf
end
end Sx
end Go.Proofs.YtkjjlppfomidbaaGreat
/- Sxk: Values in new memory that hold more than one row: parts of the own heap; calls that hand them back; conditions: none. -/
namespace Go.Proofs.YtkjjlppfomidbaaGreat
namespace Sx
open Go Go.RowKit
theorem Cut.trans {H l m R R' : Hp} (h : Cut H l R) (g : Cut l m R') : Cut H m (R' ++ R) := by
  unfold Cut at *
  refine h.trans ?_
  rw [← List.append_assoc]
  exact List.Perm.append_right R g
theorem Cut.snd {H l k R : Hp} (h : Cut H (l ++ k) R) : Cut H k (l ++ R) := h.trans List.perm_append_comm
theorem sl_of : ∀ {off : Nat} {cs vs : List Value}, (0 < vs.length ∨ off = 0) → (∀ (j : Nat) v, vs[j]? = some v → cs[off + j]? = some v) → sl off vs.length cs = some vs
  | 0, cs, [], _, _ => by simp [sl]
  | 0, [], v :: vs, _, h => by have := h 0 v rfl; simp at this
  | 0, c :: cs, v :: vs, _, h => by
    have h0 := h 0 v rfl
    simp only [Nat.zero_add, List.getElem?_cons_zero, Option.some.injEq] at h0
    subst h0
    have ih := sl_of (off := 0) (cs := cs) (vs := vs) (.inr rfl) fun j u hj => by
      have := h (j + 1) u (by simpa using hj)
      rw [Nat.zero_add, List.getElem?_cons_succ] at this
      rw [Nat.zero_add]
      exact this
    simp only [List.length_cons, sl, ih]
  | off + 1, [], [], h0, _ => by simp at h0
  | off + 1, [], v :: vs, _, h => by have := h 0 v rfl; simp at this
  | off + 1, c :: cs, vs, h0, h => by
    have h1 : 0 < vs.length := h0.resolve_right (by omega)
    have ih := sl_of (off := off) (cs := cs) (vs := vs) (.inl h1) fun j u hj => by
      have := h j u hj
      rw [show off + 1 + j = off + j + 1 by omega, List.getElem?_cons_succ] at this
      exact this
    simp only [sl]
    exact ih
def NewD (D : Value → Hp → Prop) (w w' : World) (v : Value) : Prop :=
  Below w.heap.size w w' ∧ ∃ l, D v l ∧ (l.map (·.1)).Nodup ∧ ∀ b o, (b, o) ∈ l → w.heap.size ≤ b ∧ w'.heap[b]? = some o
section
variable {P : Program} {E : Env} {kd : Bool} {Q : Exit → Tm → Hp → Prop} {t : Tm} {H : Hp} {ops : Array Oper} {rest : List Oper}
theorem RepH.newD {D : Value → Hp → Prop} {w w' : World} {v : Value} (h : RepH E H w) (hn : NewD D w w' v) : ∃ l, D v l ∧ RepH E (l ++ H) w' := by
  obtain ⟨hb, l, hd, hno, hl⟩ := hn
  refine ⟨l, hd, ?_⟩
  have h' := h.below' hb
  have hB : E.B ≤ w.heap.size := Nat.le_trans h.base h.below.size
  refine ⟨h'.below, h'.base, ?_, fun b o hm => ?_⟩
  · rw [List.map_append, List.nodup_append]
    refine ⟨hno, h'.nodup, fun a ha c hc e => ?_⟩
    subst e
    obtain ⟨x, hx, rfl⟩ := List.mem_map.1 ha
    obtain ⟨y, hy, ey⟩ := List.mem_map.1 hc
    have h1 := (Array.getElem?_eq_some_iff.1 (h.at_ y.1 y.2 hy).2).1
    have h2 := (hl x.1 x.2 hx).1
    omega
  · rcases List.mem_append.1 hm with hm | hm
    · exact ⟨Nat.le_trans hB (hl b o hm).1, (hl b o hm).2⟩
    · exact h'.at_ b o hm
theorem RepH.toD {D : Value → Hp → Prop} {w : World} {v : Value} {l R : Hp} (h : RepH E H w) (hE : E.B = E.w0.heap.size) (hc : Cut H l R) (hd : D v l) : NewD D E.w0 w v := by
  have h2 := h.perm hc
  refine ⟨by rw [← hE]; exact h.below, l, hd, ?_, fun b o hm => ?_⟩
  · have := h2.nodup
    rw [List.map_append, List.nodup_append] at this
    exact this.1
  · rw [← hE]
    exact h2.at_ b o (List.mem_append_left _ hm)
theorem ao_callD {d : Nat} {op : Op} {ty2 : TypeId} {pos : String} {af : Array Edge} {gd : Option (Nat × Bool)} {f : FuncId} {args : Array Value} {D : Value → Hp → Prop} {F : Value → Value}
    (hw : Wants ops t gd) (hv : OpCall P E op ty2 t f args) (hd : Nat.blt d E.n = true)
    (hc : ∀ w, RepH E H w → Calls P f args w fun en w' => ∃ v, en = .returned (F v) ∧ NewD D w w' v)
    (h : ∀ v l, D v l → ao kd P E ops Q rest ((d, F v) :: t) (l ++ H)) :
    ao kd P E ops Q (⟨some d, op, ty2, pos, af, gd⟩ :: rest) t H :=
  ao_callx hw hv hd fun hid w hh => (hc w hh.un).mono fun en w' ⟨v, he, hn⟩ => by
    obtain ⟨l, hr, hrep⟩ := hh.newD hn
    exact ⟨_, l ++ H, he, by rw [List.append_assoc]; exact hrep, h v l hr⟩
end
end Sx
end Go.Proofs.YtkjjlppfomidbaaGreat
