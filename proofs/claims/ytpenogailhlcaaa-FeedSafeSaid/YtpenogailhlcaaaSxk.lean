/- Values in new memory that hold more than one row: parts of the own heap; calls that hand them back; conditions: none. -/
import Derived.Test.YtpenogailhlcaaaSxo
namespace Go.Proofs.Ytpenogailhlcaaa
namespace Sx
open Go Go.RowKit

theorem Cut.trans {H l m R R' : Hp} (h : Cut H l R) (g : Cut l m R') : Cut H m (R' ++ R) := by
  unfold Cut at *
  refine h.trans ?_
  rw [← List.append_assoc]
  exact List.Perm.append_right R g
theorem Cut.fst {H l k R : Hp} (h : Cut H (l ++ k) R) : Cut H l (k ++ R) := h.trans (List.Perm.refl _)
theorem Cut.snd {H l k R : Hp} (h : Cut H (l ++ k) R) : Cut H k (l ++ R) := h.trans List.perm_append_comm

/-- The elements of a row of the call's own. -/
theorem RowB.cells_all {α : Type} {f : α → List Value} {e : TypeId} {sz : Nat} (hf : ∀ a, (f a).length = sz) {v : Value} {l : Hp} {es : List α} (h : RowB e sz v l es.length (es.flatMap f)) (hn : 0 < es.length) :
    ∃ g cap cs, v = .slice (some ⟨g, 0, none⟩) es.length cap ∧ l = [(g, .cells (List.toArray cs) e (0, 0))] ∧ ∀ (i : Nat) (x : α) (z : Int) (r : Nat) u, es[i]? = some x → z = (i : Int) → (f x)[r]? = some u → cs[0 + z.toNat * sz + r]? = some u := by
  obtain ⟨g, cap, cs, h1, h2, h3, h4, h5⟩ := h.open hn
  refine ⟨g, cap, cs, h1, h2, fun i x z r u hi hz hu => ?_⟩
  rw [hz, Int.toNat_natCast, Nat.zero_add]
  exact row_cell h5 (flat_at hf es i r x u hi hu)
theorem sl_of : ∀ {off : Nat} {cs vs : List Value}, (0 < vs.length ∨ off = 0) → (∀ (j : Nat) v, vs[j]? = some v → cs[off + j]? = some v) → sl off vs.length cs = some vs
  | 0, cs, [], _, _ => by simp [sl]
  | 0, [], v :: vs, _, h => by have := h 0 v rfl; simp at this
  | 0, c :: cs, v :: vs, _, h => by
    have h0 := h 0 v rfl
    simp only [Nat.zero_add, List.getElem?_cons_zero, Option.some.injEq] at h0
    subst h0
    have ih := sl_of (off := 0) (cs := cs) (vs := vs) (.inr rfl) fun j u hj => by
      have := h (j + 1) u (by simpa using hj)
      rw [Nat.zero_add, List.getElem?_cons_succ] at this
      rw [Nat.zero_add]
      exact this
    simp only [List.length_cons, sl, ih]
  | off + 1, [], [], h0, _ => by simp at h0
  | off + 1, [], v :: vs, _, h => by have := h 0 v rfl; simp at this
  | off + 1, c :: cs, vs, h0, h => by
    have h1 : 0 < vs.length := h0.resolve_right (by omega)
    have ih := sl_of (off := off) (cs := cs) (vs := vs) (.inl h1) fun j u hj => by
      have := h j u hj
      rw [show off + 1 + j = off + j + 1 by omega, List.getElem?_cons_succ] at this
      exact this
    simp only [sl]
    exact ih
/-- Each of ps has a part of its own. -/
def Parts {α : Type} (K : α → Hp → Prop) (ls : Hp) (ps : List α) : Prop :=
  ∃ parts : List Hp, parts.flatten.Perm ls ∧ parts.length = ps.length ∧ ∀ (i : Nat) (p : α) (l : Hp), ps[i]? = some p → parts[i]? = some l → K p l
theorem Parts.nil {α : Type} {K : α → Hp → Prop} : Parts K [] [] := ⟨[], List.Perm.refl _, rfl, fun i p l h => by simp at h⟩
theorem Parts.snoc {α : Type} {K : α → Hp → Prop} {ls l : Hp} {ps : List α} {p : α} (h : Parts K ls ps) (hp : K p l) : Parts K (l ++ ls) (ps ++ [p]) := by
  obtain ⟨parts, h1, h2, h3⟩ := h
  refine ⟨parts ++ [l], ?_, by simp [h2], fun i q m hq hm => ?_⟩
  · rw [List.flatten_append]
    simp only [List.flatten_cons, List.flatten_nil, List.append_nil]
    exact List.perm_append_comm.trans (List.Perm.append_left l h1)
  · by_cases hi : i < ps.length
    · rw [List.getElem?_append_left hi] at hq
      rw [List.getElem?_append_left (by omega)] at hm
      exact h3 i q m hq hm
    · have hlt := (List.getElem?_eq_some_iff.1 hq).1
      rw [List.length_append, List.length_singleton] at hlt
      have e : i = ps.length := by omega
      subst e
      rw [List.getElem?_append_right (Nat.le_refl _), Nat.sub_self] at hq
      rw [← h2, List.getElem?_append_right (Nat.le_refl _), Nat.sub_self] at hm
      simp only [List.getElem?_cons_zero, Option.some.injEq] at hq hm
      subst hq hm
      exact hp
theorem flatten_cut {l : Hp} : ∀ {parts : List Hp}, l ∈ parts → ∃ R, parts.flatten.Perm (l ++ R)
  | m :: parts, h => by
    rcases List.mem_cons.1 h with rfl | h
    · exact ⟨parts.flatten, List.Perm.refl _⟩
    · obtain ⟨R, hR⟩ := flatten_cut h
      refine ⟨m ++ R, ?_⟩
      rw [List.flatten_cons]
      refine (List.Perm.append_left m hR).trans ?_
      rw [← List.append_assoc, ← List.append_assoc]
      exact List.Perm.append_right R List.perm_append_comm
theorem Parts.at {α : Type} {K : α → Hp → Prop} {ls : Hp} {ps : List α} (h : Parts K ls ps) {p : α} (hp : p ∈ ps) : ∃ l R, Cut ls l R ∧ K p l := by
  obtain ⟨parts, h1, h2, h3⟩ := h
  obtain ⟨i, hi⟩ := List.getElem?_of_mem hp
  have hlt := (List.getElem?_eq_some_iff.1 hi).1
  have hm : parts[i]? = some (parts[i]'(by omega)) := List.getElem?_eq_getElem (by omega)
  obtain ⟨R, hR⟩ := flatten_cut (List.mem_of_getElem? hm)
  exact ⟨_, R, h1.symm.trans hR, h3 i p _ hi hm⟩

/-- A value in new memory, of which D tells: what it is, with the part of the heap that is its own. -/
def NewD (D : Value → Hp → Prop) (w w' : World) (v : Value) : Prop :=
  Below w.heap.size w w' ∧ ∃ l, D v l ∧ (l.map (·.1)).Nodup ∧ ∀ b o, (b, o) ∈ l → w.heap.size ≤ b ∧ w'.heap[b]? = some o

section
variable {P : Program} {E : Env} {kd : Bool} {Q : Exit → Tm → Hp → Prop} {t : Tm} {H : Hp} {ops : Array Oper} {rest : List Oper}

theorem RepH.newD {D : Value → Hp → Prop} {w w' : World} {v : Value} (h : RepH E H w) (hn : NewD D w w' v) : ∃ l, D v l ∧ RepH E (l ++ H) w' := by
  obtain ⟨hb, l, hd, hno, hl⟩ := hn
  refine ⟨l, hd, ?_⟩
  have h' := h.below' hb
  have hB : E.B ≤ w.heap.size := Nat.le_trans h.base h.below.size
  refine ⟨h'.below, h'.base, ?_, fun b o hm => ?_⟩
  · rw [List.map_append, List.nodup_append]
    refine ⟨hno, h'.nodup, fun a ha c hc e => ?_⟩
    subst e
    obtain ⟨x, hx, rfl⟩ := List.mem_map.1 ha
    obtain ⟨y, hy, ey⟩ := List.mem_map.1 hc
    have h1 := (Array.getElem?_eq_some_iff.1 (h.at_ y.1 y.2 hy).2).1
    have h2 := (hl x.1 x.2 hx).1
    omega
  · rcases List.mem_append.1 hm with hm | hm
    · exact ⟨Nat.le_trans hB (hl b o hm).1, (hl b o hm).2⟩
    · exact h'.at_ b o hm
theorem RepH.toD {D : Value → Hp → Prop} {w : World} {v : Value} {l R : Hp} (h : RepH E H w) (hE : E.B = E.w0.heap.size) (hc : Cut H l R) (hd : D v l) : NewD D E.w0 w v := by
  have h2 := h.perm hc
  refine ⟨by rw [← hE]; exact h.below, l, hd, ?_, fun b o hm => ?_⟩
  · have := h2.nodup
    rw [List.map_append, List.nodup_append] at this
    exact this.1
  · rw [← hE]
    exact h2.at_ b o (List.mem_append_left _ hm)
/-- A call that hands back a value with new memory of its own. -/
theorem ao_callD {d : Nat} {op : Op} {ty2 : TypeId} {pos : String} {af : Array Edge} {gd : Option (Nat × Bool)} {f : FuncId} {args : Array Value} {D : Value → Hp → Prop} {F : Value → Value}
    (hw : Wants ops t gd) (hv : OpCall P E op ty2 t f args) (hd : Nat.blt d E.n = true)
    (hc : ∀ w, RepH E H w → Calls P f args w fun en w' => ∃ v, en = .returned (F v) ∧ NewD D w w' v)
    (h : ∀ v l, D v l → ao kd P E ops Q rest ((d, F v) :: t) (l ++ H)) :
    ao kd P E ops Q (⟨some d, op, ty2, pos, af, gd⟩ :: rest) t H :=
  ao_callx hw hv hd fun hid w hh => (hc w hh.un).mono fun en w' ⟨v, he, hn⟩ => by
    obtain ⟨l, hr, hrep⟩ := hh.newD hn
    exact ⟨_, l ++ H, he, by rw [List.append_assoc]; exact hrep, h v l hr⟩
end
end Sx
end Go.Proofs.Ytpenogailhlcaaa
