/- Slices made and copied; calls that hand back a value that holds a row; struct arguments that hold slices; conditions: none. -/
import Derived.Test.YtpenogailhlcaaaOsl
import Derived.Test.YtpenogailhlcaaaSxz
import Derived.Laws.CopyRow
namespace Go.Proofs.Ytpenogailhlcaaa
namespace Sx
open Go Go.RowKit

section
variable {P : Program} {E : Env} {kd : Bool} {Q : Exit → Tm → Hp → Prop} {t : Tm} {H : Hp} {ops : Array Oper} {rest : List Oper}

/-- A slice is made. -/
theorem ao_make {d : Nat} {x y : Operand} {mt ty2 e : TypeId} {sz by_ n : Nat} {pos : String} {af : Array Edge} {gd : Option (Nat × Bool)} [TySl P mt e sz by_]
    (hw : Wants ops t gd) (hx : ev t x = some (I (n : Int))) (hy : ev t y = some (I (n : Int))) (hb : by_ * n ≤ 281474976710656) (hn : n ≤ 9223372036854775807) (hd : Nat.blt d E.n = true)
    (h : ∀ (b : Nat) (cs : List Value), cs.length = n * sz → ao kd P E ops Q rest ((d, .slice (some ⟨b, 0, none⟩) n n) :: t) ((b, .cells cs.toArray e (0, 0)) :: H)) :
    ao kd P E ops Q (⟨some d, .makeSlice mt x y, ty2, pos, af, gd⟩ :: rest) t H := by
  obtain ⟨i, z, hu, hi, hz, hsz, hby, hzs⟩ := TySl.sl (P := P) (t := mt)
  refine ao_new hw (o := .cells (madeCells z.cells (n * i.size)) e (0, 0)) (v := fun b => .slice (some ⟨b, 0, none⟩) n n) ?_ hd fun b => ?_
  · intro a w ht _ o ho _
    have hb' : (i.bytes : Int) * (n : Int) ≤ 281474976710656 := by
      have h : ((i.bytes * n : Nat) : Int) ≤ 281474976710656 := by rw [hby]; omega
      rwa [Int.natCast_mul] at h
    have hr := run_make (P := P) w mt e i z hu hi hz .i64 .i64 (n : Int) (n : Int) (by omega) (Int.le_refl _) hb' (by omega)
    simp only [Int.toNat_natCast] at hr
    simp only [execOp, ho, ev_eval ht hx, ev_eval ht hy, Sem.run_bind, hr, Result.andThen, pure, Sem.run]
  · exact h b (madeCells z.cells (n * i.size)).toList (by simp [madeCells, hsz])

/-- A row that came in is copied over a row of the call's own of the same length. -/
theorem ow_copy {x y : Operand} {dt st ty2 e : TypeId} {sz by_ n c1 b : Nat} {u : Value} {cs news : List Value} [TySl P dt e sz by_]
    (hx : ev t x = some (.slice (some ⟨b, 0, none⟩) n c1)) (hy : ev t y = some u) (hold : OldRow E.w0 sz u n news) (hE : E.B = E.w0.heap.size)
    (hb : Has H b (.cells cs.toArray e (0, 0))) (hl : cs.length = n * sz) (hf : news.all flat = true) :
    OpW P E (.call ⟨.builtin .copy, #[x, y], #[dt, st]⟩) ty2 t H b (.cells news.toArray e (0, 0)) (.value (I n)) := by
  intro a w ht hh oo ho _
  obtain ⟨i, z, hu, hi, hz, hsz, hby, hzs⟩ := TySl.sl (P := P) (t := dt)
  have hg := (hh.has hb).2
  have hset : w.setRow b news.toArray = { w with heap := w.heap.setIfInBounds b (.cells news.toArray e (0, 0)) } := by
    unfold World.setRow
    congr 1
    have hlt := (Array.getElem?_eq_some_iff.1 hg).1
    have hv := (Array.getElem?_eq_some_iff.1 hg).2
    apply Array.ext_getElem?
    intro j
    rw [Array.getElem?_modify, Array.getElem?_setIfInBounds]
    by_cases e : b = j
    · subst e; simp [hv, hlt]
    · simp [e]
  have hlen := hold.1
  have hcopy : (Builtin.copy_ #[dt, st] oo.type #[.slice (some ⟨b, 0, none⟩) n c1, u]).run P w = .ok (I n) (w.setRow b news.toArray) := by
    rcases Nat.eq_zero_or_pos n with h0 | h0
    · subst h0
      obtain ⟨-, a2, c2, rfl, -⟩ := hold
      have e1 : news = [] := List.eq_nil_of_length_eq_zero (by simpa using hlen)
      have e2 : cs = [] := List.eq_nil_of_length_eq_zero (by simpa using hl)
      subst e1 e2
      have hs2 := setRow_self w b #[] e (0, 0) hg
      have hl0 : ∀ a3, (loadCells a3 0).run P w = .ok #[] w := fun a3 => by
        have := run_loadCells_list (P := P) w a3 [] (fun j v hj => by simp at hj)
        simpa using this
      cases a2 with
      | none => simp [Builtin.copy_, run_underlying hu, Builtin.lenOf, Builtin.firstCells, sizeOf, typeInfo, hi, storeCells, hs2]; rfl
      | some a3 => simp [Builtin.copy_, run_underlying hu, Builtin.lenOf, Builtin.firstCells, sizeOf, typeInfo, hi, storeCells, hs2, hl0]; rfl
    · obtain ⟨g, o, c, rfl, hgw, hcells⟩ := hold.open h0
      have hsrc : ∀ j v, news[j]? = some v → w.cell? ((⟨g, o, none⟩ : Addr).add j) = some v := fun j v hj => by
        rw [add_off]
        exact (hh.below.cell (p := ⟨g, o + j, none⟩) (by rw [hE]; exact hgw)).trans (hcells j v hj)
      have hl2 := run_loadCells_list (P := P) w ⟨g, o, none⟩ news hsrc
      have hst := run_storeCells_at P b 0 e news 0 cs.toArray w hg (by simp; omega) (fun v hm => flat_one (List.all_eq_true.1 hf v hm))
      have hdrop : cs.drop news.length = [] := List.drop_eq_nil_of_le (by omega)
      simp only [Nat.zero_add, List.take_zero, List.nil_append, hdrop, List.append_nil] at hst
      simp [Builtin.copy_, run_underlying hu, Builtin.lenOf, Builtin.firstCells, sizeOf, typeInfo, hi, hsz, ← hlen, hl2, hst]; rfl
  rw [← hset]
  simp only [execOp, ho, resolve, List.map_toArray, List.map_cons, List.map_nil, ev_eval ht hx, ev_eval ht hy, Sem.run_bind, Sem.run, pure, Result.andThen, invoke, builtin, hcopy]

/-- A call that hands back a value that holds a slice in new memory. -/
theorem ao_callrg {d : Nat} {op : Op} {ty2 : TypeId} {pos : String} {af : Array Edge} {gd : Option (Nat × Bool)} {f : FuncId} {args : Array Value} {e : TypeId} {sz n : Nat} {xs : List Value} {F : Value → Value}
    (hw : Wants ops t gd) (hv : OpCall P E op ty2 t f args) (hd : Nat.blt d E.n = true)
    (hc : ∀ w, RepH E H w → Calls P f args w fun en w' => ∃ v, en = .returned (F v) ∧ NewRow e sz w w' v n xs)
    (h : ∀ v l, RowB e sz v l n xs → ao kd P E ops Q rest ((d, F v) :: t) (l ++ H)) :
    ao kd P E ops Q (⟨some d, op, ty2, pos, af, gd⟩ :: rest) t H :=
  ao_callx hw hv hd fun hid w hh => (hc w hh.un).mono fun en w' ⟨v, he, hn⟩ => by
    obtain ⟨l, hr, hrep⟩ := hh.newRow hn
    exact ⟨_, l ++ H, he, by rw [List.append_assoc]; exact hrep, h v l hr⟩
end

theorem cell_bool {P : Program} {w : World} {r : Reach} {base : Nat} {u : TypeId} {c : Value} (hu : P.underlying u = some .bool) (h : Cell.okWide P w r base u c) : ∃ b, c = .bool b := by
  obtain ⟨b, rfl⟩ := Go.WideShapes.okWide_bool hu (w := w) (r := r) (base := base) (v := c) (by unfold Value.okWide; rw [hu]; exact h)
  exact ⟨b, rfl⟩
/-- A struct's field: its type and its first cell. -/
def fieldAt (P : Program) (t : TypeId) (i : Nat) : Option (TypeId × Nat) :=
  match P.underlying t with
  | some (.struct fs) => fs[i]?.map fun f => (f.type, f.offset)
  | _ => none
/-- A struct with a field of one cell. -/
theorem open_struct_cell {H : Type} {enc : TypeId × Value → H} {P : Program} {w : World} {sp : Nat → Bool} {held : Bool} {fuel : Nat} {t : TypeId} {cs : List Value} {x : DataW H × List MemPlace}
    (hd : DataW.trod enc P w 0 sp held fuel t cs = some x) {i : Nat} {e : TypeId} {o : Nat} (hf : fieldAt P t i = some (e, o)) (hc : P.cellsOf e = 1) {v : Value} (hv : cs[o]? = some v) :
    ∃ fuel' y, DataW.trod enc P w 0 sp held fuel' e [v] = some y := by
  unfold fieldAt at hf
  split at hf
  · rename_i fs hu
    obtain ⟨f, hf2, hq⟩ := Option.map_eq_some_iff.1 hf
    cases hq
    obtain ⟨xs, n, -, -, -, hl, hall⟩ := DataW.trod_struct hu hd
    have := hall i f hf2
    have hlt : i < xs.length := by rw [hl]; exact (Array.getElem?_eq_some_iff.1 hf2).1
    rw [hc, List.getElem?_eq_getElem hlt] at this
    have ho2 := (List.getElem?_eq_some_iff.1 hv).1
    rw [List.drop_eq_getElem_cons ho2, (List.getElem?_eq_some_iff.1 hv).2] at this
    exact ⟨n, _, this⟩
  · cases hf
end Sx
end Go.Proofs.Ytpenogailhlcaaa
