/- What a feed is: its events, what each is, what is covered; what its calls come to; conditions: none. -/
import Derived.Test.YtpenogailhlcaaaSxf
namespace Go.Proofs.Ytpenogailhlcaaa
namespace Fdt
open Go Go.RowKit Sx

theorem getP {α : Type} {l : List α} {i : Nat} (h : i < l.length) : ∃ a, l[i]? = some a := ⟨_, List.getElem?_eq_getElem h⟩
abbrev Nm := List UInt8
abbrev Kt := Nm × Nm × Nm
abbrev K3 (k : Kt) : Value := .agg #[S k.1, S k.2.1, S k.2.2]
/-- Of each event its key, and what it is (0 open, 1 told, 2 dropped); what is covered. -/
structure Fd where
  es : List (Kt × Int)
  cov : Int
def Fd.new : Fd := ⟨[], 0⟩
def stB (f : Fd) (i : Nat) : Bool := match f.es[i]? with | some e => decide (e.2 = 1) || decide ((i : Int) + 1 ≤ f.cov) | none => false
def opB (f : Fd) (i : Nat) : Bool := match f.es[i]? with | some e => decide (e.2 = 0) && !(stB f i) | none => false
def openL (f : Fd) (n : Nat) : List Nat := (List.range n).filter fun i => opB f i
def openF (f : Fd) : List Nat := openL f f.es.length
/-- An event of that key ahead of it is open. -/
def blkB (f : Fd) (k : Kt) (n : Nat) : Bool := (List.range n).any fun i => opB f i && (match f.es[i]? with | some e => decide (e.1 = k) | none => false)
def setF (f : Fd) (i : Nat) (v : Int) : Fd := ⟨match f.es[i]? with | some e => f.es.set i (e.1, v) | none => f.es, f.cov⟩
def growF (f : Fd) (k : Kt) : Fd := ⟨f.es ++ [(k, 0)], f.cov⟩
def inF (f : Fd) (i : Int) : Prop := 0 ≤ i ∧ i < f.es.length
instance (f : Fd) (i : Int) : Decidable (inF f i) := by unfold inF; infer_instance
def tellF (f : Fd) (i : Int) : Int × Fd :=
  if ¬ inF f i then (1, f)
  else match f.es[i.toNat]? with
    | some e => if e.2 = 2 then (6, f) else if blkB f e.1 i.toNat = true then (7, f) else (0, setF f i.toNat 1)
    | none => (1, f)
def dropF (f : Fd) (i : Int) : Int × Fd := if ¬ inF f i then (1, f) else if opB f i.toNat = true then (0, setF f i.toNat 2) else (6, f)
def coverF (f : Fd) (v : Int) : Int × Fd := if v < 0 ∨ f.es.length < v then (1, f) else if v < f.cov then (6, f) else (0, ⟨f.es, v⟩)
/-- So many ahead are settled. -/
def safeL (f : Fd) : Nat → Nat → Nat
  | 0, n => n
  | k + 1, n => if stB f n = true then safeL f k (n + 1) else n
def safeF (f : Fd) : Nat := safeL f f.es.length 0
/-- Is it the last one of its key? -/
def lastB (f : Fd) (i m : Nat) : Bool := match f.es[i]? with | some e => ((f.es.take m).drop (i + 1)).all fun x => decide (x.1 ≠ e.1) | none => false
def doneF (f : Fd) (n : Nat) : Bool := (List.range n).all fun i => !(lastB f i f.es.length) || stB f i
def settledF (f : Fd) : Bool := doneF f f.es.length

/-- Such a feed as there can be. -/
structure WfF (f : Fd) : Prop where
  is : ∀ e ∈ f.es, e.2 = 0 ∨ e.2 = 1 ∨ e.2 = 2
  lo : 0 ≤ f.cov
  hi : f.cov ≤ f.es.length
theorem WfF.new : WfF .new := ⟨(fun _ h => by cases h), Int.le_refl _, Int.le_refl _⟩
theorem setF_len (f : Fd) (i : Nat) (v : Int) : (setF f i v).es.length = f.es.length := by
  unfold setF
  simp only
  split
  · exact List.length_set
  · rfl
theorem setF_get (f : Fd) (i : Nat) (v : Int) (j : Nat) : (setF f i v).es[j]? = if j = i then (f.es[j]?).map fun e => (e.1, v) else f.es[j]? := by
  unfold setF
  simp only
  by_cases hj : j = i
  · subst hj
    rw [if_pos rfl]
    cases h : f.es[j]? with
    | none => simp [h]
    | some e =>
      have hlt := (List.getElem?_eq_some_iff.1 h).1
      simp [hlt]
  · rw [if_neg hj]
    split
    · rw [List.getElem?_set_ne (Ne.symm hj)]
    · rfl
theorem setF_wf {f : Fd} (h : WfF f) (i : Nat) {v : Int} (hv : v = 0 ∨ v = 1 ∨ v = 2) : WfF (setF f i v) := by
  refine ⟨fun e he => ?_, h.lo, by rw [setF_len]; exact h.hi⟩
  obtain ⟨j, hj⟩ := List.getElem?_of_mem he
  rw [setF_get] at hj
  split at hj
  · cases hg : f.es[j]? with
    | none => rw [hg] at hj; cases hj
    | some x => rw [hg] at hj; cases hj; exact hv
  · exact h.is e (List.mem_of_getElem? hj)
theorem growF_wf {f : Fd} (h : WfF f) (k : Kt) : WfF (growF f k) := by
  refine ⟨fun e he => ?_, h.lo, ?_⟩
  · rcases List.mem_append.1 he with he | he
    · exact h.is e he
    · rw [List.mem_singleton.1 he]; exact .inl rfl
  · show f.cov ≤ ((f.es ++ [(k, 0)]).length : Nat)
    have := h.hi
    rw [List.length_append, List.length_singleton]
    omega
theorem tell_cases (f : Fd) (i : Int) : (tellF f i = (1, f) ∧ ¬ inF f i) ∨ (∃ e, inF f i ∧ f.es[i.toNat]? = some e ∧ ((e.2 = 2 ∧ tellF f i = (6, f)) ∨ (e.2 ≠ 2 ∧ blkB f e.1 i.toNat = true ∧ tellF f i = (7, f)) ∨ (e.2 ≠ 2 ∧ blkB f e.1 i.toNat = false ∧ tellF f i = (0, setF f i.toNat 1)))) := by
  unfold tellF
  by_cases h : inF f i
  · rw [if_neg (by simpa using h)]
    obtain ⟨e, he⟩ := getP (show i.toNat < f.es.length by unfold inF at h; omega)
    refine .inr ⟨e, h, he, ?_⟩
    rw [he]
    simp only
    by_cases h2 : e.2 = 2
    · rw [if_pos h2]; exact .inl ⟨h2, rfl⟩
    · rw [if_neg h2]
      cases hb : blkB f e.1 i.toNat
      · exact .inr (.inr ⟨h2, rfl, by rw [if_neg (by decide)]⟩)
      · exact .inr (.inl ⟨h2, rfl, by rw [if_pos rfl]⟩)
  · rw [if_pos h]; exact .inl ⟨rfl, h⟩
theorem drop_cases (f : Fd) (i : Int) : (dropF f i = (1, f) ∧ ¬ inF f i) ∨ (inF f i ∧ opB f i.toNat = false ∧ dropF f i = (6, f)) ∨ (inF f i ∧ opB f i.toNat = true ∧ dropF f i = (0, setF f i.toNat 2)) := by
  unfold dropF
  by_cases h : inF f i
  · rw [if_neg (by simpa using h)]
    cases hb : opB f i.toNat
    · exact .inr (.inl ⟨h, rfl, by rw [if_neg (by decide)]⟩)
    · exact .inr (.inr ⟨h, rfl, by rw [if_pos rfl]⟩)
  · rw [if_pos h]; exact .inl ⟨rfl, h⟩
theorem cover_cases (f : Fd) (v : Int) : (coverF f v = (1, f)) ∨ (0 ≤ v ∧ v ≤ f.es.length ∧ v < f.cov ∧ coverF f v = (6, f)) ∨ (0 ≤ v ∧ v ≤ f.es.length ∧ f.cov ≤ v ∧ coverF f v = (0, ⟨f.es, v⟩)) := by
  unfold coverF
  by_cases h : v < 0 ∨ f.es.length < v
  · rw [if_pos h]; exact .inl rfl
  · rw [if_neg h]
    by_cases h2 : v < f.cov
    · rw [if_pos h2]; exact .inr (.inl ⟨by omega, by omega, h2, rfl⟩)
    · rw [if_neg h2]; exact .inr (.inr ⟨by omega, by omega, by omega, rfl⟩)
/-- An act, by its kind. -/
def doF (f : Fd) (kind : Int) (k : Kt) (n : Int) : Int × Fd :=
  if kind % 7 = 0 ∨ kind % 7 = 1 then (0, growF f k) else if kind % 7 = 5 then dropF f n else if kind % 7 = 6 then coverF f n else tellF f n
theorem do_wf {f : Fd} (h : WfF f) (kind : Int) (k : Kt) (n : Int) : WfF (doF f kind k n).2 ∧ (doF f kind k n).2.es.length ≤ f.es.length + 1 := by
  unfold doF
  split
  · exact ⟨growF_wf h k, by show (f.es ++ [(k, 0)]).length ≤ _; rw [List.length_append, List.length_singleton]; omega⟩
  split
  · rcases drop_cases f n with ⟨e, -⟩ | ⟨-, -, e⟩ | ⟨-, -, e⟩ <;> rw [e]
    · exact ⟨h, by simp⟩
    · exact ⟨h, by simp⟩
    · exact ⟨setF_wf h _ (.inr (.inr rfl)), by simp only; rw [setF_len]; omega⟩
  split
  · rcases cover_cases f n with e | ⟨-, -, -, e⟩ | ⟨h1, h2, h3, e⟩ <;> rw [e]
    · exact ⟨h, by simp⟩
    · exact ⟨h, by simp⟩
    · exact ⟨⟨h.is, h1, h2⟩, by simp⟩
  · rcases tell_cases f n with ⟨e, -⟩ | ⟨x, -, -, ⟨-, e⟩ | ⟨-, -, e⟩ | ⟨-, -, e⟩⟩ <;> rw [e]
    · exact ⟨h, by simp⟩
    · exact ⟨h, by simp⟩
    · exact ⟨h, by simp⟩
    · exact ⟨setF_wf h _ (.inr (.inl rfl)), by simp only; rw [setF_len]; omega⟩
end Fdt
end Go.Proofs.Ytpenogailhlcaaa
