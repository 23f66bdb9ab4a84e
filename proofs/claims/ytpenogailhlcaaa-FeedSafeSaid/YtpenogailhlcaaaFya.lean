/- What a landed feed keeps of each event beside what it is: the nearest one of its key ahead of it; each in its turn; of each key the last; conditions: none. -/
import Derived.Test.YtpenogailhlcaaaFdd
namespace Go.Proofs.Ytpenogailhlcaaa
namespace Fdt
open Go Go.RowKit Sx
attribute [local irreducible] Go.Calls

def keysF (f : Fd) : List Kt := f.es.map (·.1)
/-- The nearest one of a key among the first so many; -1, if there is none. -/
def prevK (ks : List Kt) (k : Kt) : Nat → Int
  | 0 => -1
  | n + 1 => if ks[n]? = some k then (n : Int) else prevK ks k n
theorem prev_spec (ks : List Kt) (k : Kt) : ∀ n : Nat, (prevK ks k n = -1 ∧ ∀ j, j < n → ks[j]? ≠ some k) ∨ ∃ j : Nat, j < n ∧ prevK ks k n = j ∧ ks[j]? = some k ∧ ∀ m, j < m → m < n → ks[m]? ≠ some k
  | 0 => .inl ⟨rfl, fun j hj => absurd hj (Nat.not_lt_zero j)⟩
  | n + 1 => by
    unfold prevK
    by_cases h : ks[n]? = some k
    · rw [if_pos h]; exact .inr ⟨n, Nat.lt_succ_self n, rfl, h, fun m h1 h2 => by omega⟩
    · rw [if_neg h]
      rcases prev_spec ks k n with ⟨h1, h2⟩ | ⟨j, h1, h2, h3, h4⟩
      · refine .inl ⟨h1, fun j hj => ?_⟩
        by_cases e : j = n
        · rw [e]; exact h
        · exact h2 j (by omega)
      · refine .inr ⟨j, by omega, h2, h3, fun m hm hm2 => ?_⟩
        by_cases e : m = n
        · rw [e]; exact h
        · exact h4 m hm (by omega)
theorem prev_app (ks : List Kt) (x k : Kt) : ∀ n : Nat, n ≤ ks.length → prevK (ks ++ [x]) k n = prevK ks k n
  | 0, _ => rfl
  | n + 1, h => by
    unfold prevK
    rw [List.getElem?_append_left (by omega), prev_app ks x k n (by omega)]
/-- What it keeps of each event. -/
def rowE (f : Fd) : List (Int × Int) := f.es.mapIdx fun i e => (prevK (keysF f) e.1 i, e.2)
def cellsB (x : Int × Int) : List Value := [I x.1, I x.2]
theorem cellsB_len (x : Int × Int) : (cellsB x).length = 2 := rfl
theorem rowE_len (f : Fd) : (rowE f).length = f.es.length := List.length_mapIdx
theorem rowE_at {f : Fd} {i : Nat} {k : Kt} {s : Int} (h : f.es[i]? = some (k, s)) : (rowE f)[i]? = some (prevK (keysF f) k i, s) := by
  unfold rowE
  rw [List.getElem?_mapIdx, h]
  rfl
theorem setF_kmap (f : Fd) (i : Nat) (v : Int) : (setF f i v).es.map (·.1) = f.es.map (·.1) := by
  apply List.ext_getElem?
  intro j
  rw [List.getElem?_map, List.getElem?_map, setF_get]
  split
  · cases f.es[j]? <;> rfl
  · rfl
theorem rowE_set {f : Fd} {i : Nat} {k : Kt} {s v : Int} (h : f.es[i]? = some (k, s)) : rowE (setF f i v) = (rowE f).set i (prevK (keysF f) k i, v) := by
  have hi := (List.getElem?_eq_some_iff.1 h).1
  apply List.ext_getElem?
  intro j
  unfold rowE
  rw [List.getElem?_mapIdx, setF_get, show keysF (setF f i v) = keysF f from setF_kmap f i v]
  by_cases e : j = i
  · subst e
    rw [if_pos rfl, List.getElem?_set_self (by rw [List.length_mapIdx]; exact hi), h]
    rfl
  · rw [if_neg e, List.getElem?_set_ne (Ne.symm e), List.getElem?_mapIdx]
theorem flatB_set : ∀ (es : List (Int × Int)) (i : Nat) (p s v : Int), es[i]? = some (p, s) → (es.set i (p, v)).flatMap cellsB = (es.flatMap cellsB).set (i * 2 + 1) (I v)
  | [], i, p, s, v, h => by simp at h
  | x :: es, 0, p, s, v, h => by
    simp only [List.getElem?_cons_zero, Option.some.injEq] at h
    subst h
    rfl
  | x :: es, i + 1, p, s, v, h => by
    rw [List.getElem?_cons_succ] at h
    rw [List.set_cons_succ, List.flatMap_cons, List.flatMap_cons, flatB_set es i p s v h, show (i + 1) * 2 + 1 = (i * 2 + 1) + 2 by omega]
    rfl
theorem flatB_flat (es : List (Int × Int)) : (es.flatMap cellsB).all flat = true := by
  rw [List.all_eq_true]
  intro x hx
  obtain ⟨e, -, hxe⟩ := List.mem_flatMap.1 hx
  unfold cellsB at hxe
  simp only [List.mem_cons, List.not_mem_nil, or_false] at hxe
  rcases hxe with h | h <;> subst h <;> rfl
theorem grow_at {f : Fd} {k : Kt} {i : Nat} (hi : i < f.es.length) : (growF f k).es[i]? = f.es[i]? := by unfold growF; rw [List.getElem?_append_left hi]
theorem grow_new (f : Fd) (k : Kt) : (growF f k).es[f.es.length]? = some (k, 0) := by unfold growF; rw [List.getElem?_append_right (Nat.le_refl _), Nat.sub_self]; rfl
theorem grow_len (f : Fd) (k : Kt) : (growF f k).es.length = f.es.length + 1 := by unfold growF; rw [List.length_append, List.length_singleton]
theorem keysF_len (f : Fd) : (keysF f).length = f.es.length := List.length_map _
theorem keysF_at {f : Fd} {i : Nat} {k : Kt} {s : Int} (h : f.es[i]? = some (k, s)) : (keysF f)[i]? = some k := by unfold keysF; rw [List.getElem?_map, h]; rfl
theorem keysF_some {f : Fd} {i : Nat} {k : Kt} (h : (keysF f)[i]? = some k) : ∃ s, f.es[i]? = some (k, s) := by
  unfold keysF at h
  rw [List.getElem?_map] at h
  cases he : f.es[i]? with
  | none => rw [he] at h; cases h
  | some e => rw [he] at h; cases h; exact ⟨e.2, rfl⟩
theorem keysF_grow (f : Fd) (k : Kt) : keysF (growF f k) = keysF f ++ [k] := by unfold keysF growF; rw [List.map_append]; rfl
theorem rowE_grow (f : Fd) (k : Kt) : rowE (growF f k) = rowE f ++ [(prevK (keysF f) k f.es.length, 0)] := by
  apply List.ext_getElem?
  intro j
  unfold rowE
  rw [List.getElem?_mapIdx, keysF_grow]
  by_cases h : j < f.es.length
  · rw [grow_at h, List.getElem?_append_left (by rw [List.length_mapIdx]; exact h), List.getElem?_mapIdx]
    congr 1
    funext e
    rw [prev_app _ _ _ _ (by rw [keysF_len]; omega)]
  · rw [List.getElem?_append_right (by rw [List.length_mapIdx]; omega), List.length_mapIdx]
    by_cases e : j = f.es.length
    · subst e
      rw [grow_new, Nat.sub_self, Option.map_some, prev_app _ _ _ _ (by rw [keysF_len]; exact Nat.le_refl _)]
      rfl
    · rw [List.getElem?_eq_none (by rw [grow_len]; omega), List.getElem?_eq_none (by rw [List.length_singleton]; omega)]
      rfl

/-- Each in its turn: ahead of a settled one none of its key is open. -/
def Turn (f : Fd) : Prop := ∀ (i j : Nat) (k : Kt), j < i → (keysF f)[i]? = some k → (keysF f)[j]? = some k → stB f i = true → opB f j = false
theorem Turn.new : Turn .new := fun i j k _ h _ _ => by cases h
theorem blk_no {f : Fd} {k : Kt} {n j : Nat} (h : blkB f k n = false) (hj : j < n) (hk : (keysF f)[j]? = some k) : opB f j = false := by
  obtain ⟨s, he⟩ := keysF_some hk
  cases ho : opB f j with
  | false => rfl
  | true => rw [blk_t he hj ho rfl] at h; cases h
theorem no_blk {f : Fd} {k : Kt} {n : Nat} (h : ∀ j, j < n → (keysF f)[j]? = some k → opB f j = false) : blkB f k n = false := by
  cases hb : blkB f k n with
  | false => rfl
  | true =>
    unfold blkB at hb
    rw [List.any_eq_true] at hb
    obtain ⟨j, hj, hb⟩ := hb
    rw [Bool.and_eq_true] at hb
    cases he : f.es[j]? with
    | none => rw [he] at hb; exact absurd hb.2 (by simp)
    | some e =>
      rw [he] at hb
      have := h j (List.mem_range.1 hj) (by rw [keysF_at (k := e.1) (s := e.2) he, of_decide_eq_true hb.2])
      rw [this] at hb
      exact absurd hb.1 (by decide)
theorem st_out {f : Fd} {i : Nat} (h : f.es[i]? = none) : stB f i = false := by unfold stB; rw [h]
theorem op_out {f : Fd} {i : Nat} (h : f.es[i]? = none) : opB f i = false := by unfold opB; rw [h]
theorem Turn.tell {f : Fd} (h : Turn f) {n : Nat} {k : Kt} {s : Int} (hn : f.es[n]? = some (k, s)) (hb : blkB f k n = false) : Turn (setF f n 1) := by
  intro i j x hji hi hj hs
  rw [show keysF (setF f n 1) = keysF f from setF_kmap f n 1] at hi hj
  have old : opB f j = false := by
    by_cases e : i = n
    · subst e
      rw [keysF_at hn] at hi
      cases hi
      exact blk_no hb hji hj
    · obtain ⟨si, ei⟩ := keysF_some hi
      rw [stB_at (f := setF f n 1) (k := x) (is := si) (by rw [setF_get, if_neg e, ei])] at hs
      exact h i j x hji hi hj (by rw [stB_at ei]; exact hs)
  obtain ⟨sj, ej⟩ := keysF_some hj
  by_cases e : j = n
  · subst e
    rw [opB_at (f := setF f j 1) (k := x) (is := 1) (by rw [setF_get, if_pos rfl, ej]; rfl)]
    rfl
  · have e2 : (setF f n 1).es[j]? = some (x, sj) := by rw [setF_get, if_neg e, ej]
    rw [opB_at e2, stB_at e2]
    rw [opB_at ej, stB_at ej] at old
    exact old
theorem Turn.drop {f : Fd} (h : Turn f) {n : Nat} {k : Kt} {s : Int} (hn : f.es[n]? = some (k, s)) : Turn (setF f n 2) := by
  intro i j x hji hi hj hs
  rw [show keysF (setF f n 2) = keysF f from setF_kmap f n 2] at hi hj
  obtain ⟨si, ei⟩ := keysF_some hi
  obtain ⟨sj, ej⟩ := keysF_some hj
  have old : opB f j = false := by
    refine h i j x hji hi hj ?_
    rw [stB_at ei]
    by_cases e : i = n
    · subst e
      rw [stB_at (f := setF f i 2) (k := x) (is := 2) (by rw [setF_get, if_pos rfl, ei]; rfl)] at hs
      rw [show (decide ((2 : Int) = 1)) = false from rfl, Bool.false_or] at hs
      rw [show (setF f i 2).cov = f.cov from rfl] at hs
      rw [hs, Bool.or_true]
    · rw [stB_at (f := setF f n 2) (k := x) (is := si) (by rw [setF_get, if_neg e, ei])] at hs
      exact hs
  by_cases e : j = n
  · subst e
    rw [opB_at (f := setF f j 2) (k := x) (is := 2) (by rw [setF_get, if_pos rfl, ej]; rfl)]
    rfl
  · have e2 : (setF f n 2).es[j]? = some (x, sj) := by rw [setF_get, if_neg e, ej]
    rw [opB_at e2, stB_at e2]
    rw [opB_at ej, stB_at ej] at old
    exact old
theorem Turn.cover {f : Fd} (h : Turn f) {v : Int} (hv : f.cov ≤ v) : Turn ⟨f.es, v⟩ := by
  intro i j x hji hi hj hs
  obtain ⟨si, ei⟩ := keysF_some (f := f) hi
  obtain ⟨sj, ej⟩ := keysF_some (f := f) hj
  rw [stB_at (f := ⟨f.es, v⟩) ei, Bool.or_eq_true] at hs
  rw [opB_at (f := ⟨f.es, v⟩) ej, stB_at (f := ⟨f.es, v⟩) ej]
  simp only at hs ⊢
  rcases hs with hs | hs
  · have old := h i j x hji hi hj (by rw [stB_at ei, hs]; rfl)
    rw [opB_at ej, stB_at ej] at old
    cases h0 : decide (sj = 0) with
    | false => rfl
    | true =>
      rw [h0, Bool.true_and] at old
      rw [Bool.true_and]
      have h1 : sj = 0 := of_decide_eq_true h0
      subst h1
      rw [show decide ((0 : Int) = 1) = false from rfl, Bool.false_or] at old ⊢
      have h2 : (j : Int) + 1 ≤ f.cov := by
        cases h3 : decide ((j : Int) + 1 ≤ f.cov) with
        | true => exact of_decide_eq_true h3
        | false => rw [h3] at old; cases old
      rw [decide_eq_true (show (j : Int) + 1 ≤ v by omega)]
      rfl
  · have h1 : (i : Int) + 1 ≤ v := of_decide_eq_true hs
    rw [decide_eq_true (show (j : Int) + 1 ≤ v by omega), Bool.or_true, Bool.not_true, Bool.and_false]
theorem Turn.grow {f : Fd} (h : Turn f) (hw : WfF f) (k : Kt) : Turn (growF f k) := by
  intro i j x hji hi hj hs
  have hil : i < f.es.length := by
    obtain ⟨si, ei⟩ := keysF_some hi
    have h1 := (List.getElem?_eq_some_iff.1 ei).1
    rw [grow_len] at h1
    by_cases e : i = f.es.length
    · subst e
      rw [stB_at (grow_new f k)] at hs
      have : (growF f k).cov = f.cov := rfl
      rw [this, show decide ((0 : Int) = 1) = false from rfl, Bool.false_or] at hs
      have h2 := of_decide_eq_true hs
      have h3 := hw.hi
      omega
    · omega
  rw [keysF_grow, List.getElem?_append_left (by rw [keysF_len]; omega)] at hi hj
  obtain ⟨si, ei⟩ := keysF_some hi
  obtain ⟨sj, ej⟩ := keysF_some hj
  have e1 : (growF f k).es[i]? = some (x, si) := by rw [grow_at hil, ei]
  have e2 : (growF f k).es[j]? = some (x, sj) := by rw [grow_at (by omega), ej]
  rw [stB_at e1] at hs
  have old := h i j x hji hi hj (by rw [stB_at ei]; exact hs)
  rw [opB_at e2, stB_at e2]
  rw [opB_at ej, stB_at ej] at old
  exact old
end Fdt
end Go.Proofs.Ytpenogailhlcaaa
