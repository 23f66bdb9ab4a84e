/- What the document's answer for layer 8 does: a relist; conditions: names of at most 1,000 bytes, at most 19,999 objects. -/
import Derived.Test.YtboimmfegeinaaaChw
import Derived.Test.YtboimmfegeinaaaCsx
namespace Go.Proofs.Ytboimmfegeinaaa
namespace Chm
open Go Go.RowKit Sx Lab Vec Ojt Evt
attribute [local irreducible] Go.Calls

theorem getO_obs (ps : List PO) (k : Kt) : getO (obs ps) k = (findK ps k).map (·.2) := by
  unfold getO findK
  rw [List.find?_map]
  rfl
theorem hasO_obs (ps : List PO) (k : Kt) : hasO (obs ps) k = hasK ps k := by
  unfold hasO hasK
  rw [List.any_map]
  rfl
theorem woO_obs (ps : List PO) (k : Kt) : woO (obs ps) k = obs (withoutP ps k) := by
  unfold woO withoutP
  rw [List.filter_map]
  rfl
theorem wiO_obs (ps : List PO) (p : PO) : wiO (obs ps) p.2 = obs (withP ps p) := by
  unfold wiO withP
  rw [obs_sort, woO_obs]
  congr 1
  exact (List.map_append (f := fun p : PO => p.2) (l₁ := withoutP ps (keyO p.2)) (l₂ := [p])).symm
theorem knO_obs (ps : List PO) (gs : List Gr) (fl : Int) (k : Kt) : knO ⟨obs ps, gs, fl⟩ k = knownC ps gs fl k := by
  unfold knO knownC
  simp only [getO_obs]
  cases findK ps k <;> rfl
theorem withP_mem {ps : List PO} {p q : PO} (h : q ∈ withP ps p) : q ∈ ps ∨ q = p := by
  rcases List.mem_append.1 (sort_mem h) with h | h
  · exact .inl (List.mem_filter.1 h).1
  · exact .inr (List.mem_singleton.1 h)
theorem withP_len {ps : List PO} {p : PO} : (withP ps p).length ≤ ps.length + 1 := by
  unfold withP
  rw [sort_len, List.length_append, List.length_singleton]
  have : (withoutP ps (keyO p.2)).length ≤ ps.length := List.length_filter_le _ _
  omega
/-- Does a relist's object take its key's place? -/
def takesP (ps : List PO) (gs : List Gr) (fl : Int) (q : PO) : Bool := decide (knownC ps gs fl (keyO q.2) < q.2.ver) || (match findK ps (keyO q.2) with | some own => own.2.ver == q.2.ver | none => false)
theorem takes_obs (ps : List PO) (gs : List Gr) (fl : Int) (q : PO) : takesO ⟨obs ps, gs, fl⟩ q.2 = takesP ps gs fl q := by
  unfold takesO takesP
  rw [knO_obs]
  simp only [getO_obs]
  cases findK ps (keyO q.2) <;> rfl
def rlBase (ps qs : List PO) (ver : Int) : List PO := ps.filter fun p => hasK qs (keyO p.2) || decide (ver < p.2.ver)
def rlP (ps : List PO) (gs : List Gr) (fl : Int) (qs : List PO) (ver : Int) : List PO := qs.foldl (fun out q => if takesP ps gs fl q = true then withP out q else out) (rlBase ps qs ver)
theorem rlP_obs (ps : List PO) (gs : List Gr) (fl : Int) (qs : List PO) (ver : Int) : obs (rlP ps gs fl qs ver) = rlO ⟨obs ps, gs, fl⟩ (obs qs) ver := by
  have key : ∀ (l outs : List PO), obs (l.foldl (fun out q => if takesP ps gs fl q = true then withP out q else out) outs) = (obs l).foldl (rlStep ⟨obs ps, gs, fl⟩) (obs outs) := fun l => by
    induction l with
    | nil => intro outs; rfl
    | cons q l ih =>
      intro outs
      rw [List.foldl_cons, ih]
      show _ = (obs l).foldl _ (rlStep ⟨obs ps, gs, fl⟩ (obs outs) q.2)
      congr 1
      unfold rlStep
      rw [takes_obs, wiO_obs]
      split <;> rfl
  unfold rlP rlO
  rw [key]
  congr 1
  unfold rlBase
  simp only [hasO_obs]
  rw [List.filter_map]
  rfl
theorem rlP_mem {ps : List PO} {gs : List Gr} {fl : Int} {qs : List PO} {ver : Int} : (∀ p ∈ rlP ps gs fl qs ver, p ∈ ps ∨ p ∈ qs) ∧ (rlP ps gs fl qs ver).length ≤ ps.length + qs.length := by
  have key : ∀ (l outs : List PO), (∀ p ∈ l.foldl (fun out q => if takesP ps gs fl q = true then withP out q else out) outs, p ∈ outs ∨ p ∈ l) ∧ (l.foldl (fun out q => if takesP ps gs fl q = true then withP out q else out) outs).length ≤ outs.length + l.length := fun l => by
    induction l with
    | nil => intro outs; exact ⟨fun p h => .inl h, Nat.le_refl _⟩
    | cons q l ih =>
      intro outs
      rw [List.foldl_cons]
      by_cases ht : takesP ps gs fl q = true
      · rw [if_pos ht]
        obtain ⟨h1, h2⟩ := ih (withP outs q)
        have := withP_len (ps := outs) (p := q)
        refine ⟨fun p hp => ?_, by rw [List.length_cons]; omega⟩
        rcases h1 p hp with h | h
        · rcases withP_mem h with h | rfl
          · exact .inl h
          · exact .inr List.mem_cons_self
        · exact .inr (List.mem_cons_of_mem q h)
      · rw [if_neg ht]
        obtain ⟨h1, h2⟩ := ih outs
        refine ⟨fun p hp => ?_, by rw [List.length_cons]; omega⟩
        rcases h1 p hp with h | h
        · exact .inl h
        · exact .inr (List.mem_cons_of_mem q h)
  obtain ⟨h1, h2⟩ := key qs (rlBase ps qs ver)
  have hb : (rlBase ps qs ver).length ≤ ps.length := List.length_filter_le _ _
  refine ⟨fun p hp => ?_, by unfold rlP; omega⟩
  rcases h1 p hp with h | h
  · exact .inl (List.mem_filter.1 h).1
  · exact .inr h
theorem ChAt.below {w w' : World} {gc : Nat} {v u : Value} {ps : List PO} {gs : List Gr} {fl : Int} (h : ChAt w gc v ps u gs fl) (hb : Below w.heap.size w w') : ChAt w' gc v ps u gs fl := by
  obtain ⟨h1, h2, h3, h4, h5, h6⟩ := h
  exact ⟨Nat.lt_of_lt_of_le h1 hb.size, (hb.cell h1).trans h2, (hb.cell h1).trans h3, (hb.cell h1).trans h4, h5.below hb, OldRow.below h6 hb⟩

end Chm
end Go.Proofs.Ytboimmfegeinaaa
