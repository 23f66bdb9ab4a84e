/- Sums, as facts: a move adds a charge, or takes it away; conditions: none. -/
import Derived.Test.YtdakeicfhbggeaaGreatLcm
import Derived.Test.YtdakeicfhbggeaaGreatOmor
import Derived.Test.YtdakeicfhbggeaaGreatCsx
/- Lcs: Sums, as facts: a move adds a charge, or takes it away; conditions: none. -/
namespace Go.Proofs.YtdakeicfhbggeaaGreat
namespace Lct
open Go Go.RowKit Sx Vec Ojt Scp
abbrev Tx := List UInt8
theorem getS_put (L : List Su) (b : Bk) (v : List Ent) (c : Bk) : getS (putS L b v) c = if c = b then v else getS L c := by
  unfold getS putS
  by_cases h : c = b
  · subst h
    rw [if_pos rfl, List.find?_append, List.find?_eq_none.2 fun x hx => by simpa using (List.mem_filter.1 hx).2]
    simp
  · rw [if_neg h, List.find?_append, List.find?_filter]
    have e : (L.find? fun a => decide (decide (a.1 ≠ b) = true ∧ decide (a.1 = c) = true)) = L.find? fun a => decide (a.1 = c) := by
      congr 1
      funext a
      by_cases ha : a.1 = c
      · rw [decide_eq_true ha, ha]; simp [h]
      · rw [decide_eq_false ha]; simp
    rw [e]
    cases L.find? fun a => decide (a.1 = c) with
    | some x => rfl
    | none => simp [show ¬ b = c from fun e => h e.symm]
end Lct
end Go.Proofs.YtdakeicfhbggeaaGreat
/- Lct: Sums, as facts: the deltas of a cache make of its old sums its new ones; conditions: none. -/
namespace Go.Proofs.YtdakeicfhbggeaaGreat
namespace Lct
open Go Go.RowKit Sx Vec Ojt Scp
theorem getS_mem {L : List Su} (hn : (L.map (·.1)).Nodup) {e : Su} (he : e ∈ L) : getS L e.1 = e.2 := by
  unfold getS
  cases hf : L.find? fun x => decide (x.1 = e.1) with
  | none =>
    rw [List.find?_eq_none] at hf
    exact absurd (decide_eq_true rfl) (hf e he)
  | some x =>
    have h1 := List.mem_of_find?_eq_some hf
    have h2 := List.find?_some hf
    rw [decide_eq_true_eq] at h2
    obtain ⟨i, hi⟩ := List.getElem?_of_mem h1
    obtain ⟨j, hj⟩ := List.getElem?_of_mem he
    have e1 : (L.map (·.1))[i]? = some e.1 := by rw [List.getElem?_map, hi]; simp [h2]
    have e2 : (L.map (·.1))[j]? = some e.1 := by rw [List.getElem?_map, hj]; rfl
    have := (List.getElem?_inj (List.getElem?_eq_some_iff.1 e1).1 hn).1 (e1.trans e2.symm)
    rw [this, hj] at hi
    cases hi
    rfl
end Lct
end Go.Proofs.YtdakeicfhbggeaaGreat
/- Lcu: Sums, as facts: all deltas from one list of objects to another; what a load makes; conditions: none. -/
namespace Go.Proofs.YtdakeicfhbggeaaGreat
namespace Lct
open Go Go.RowKit Sx Vec Ojt Scp
end Lct
end Go.Proofs.YtdakeicfhbggeaaGreat
/- Lcv: Sums, as facts: the same sums, the same spaces; a sum that is made one by one; conditions: none. -/
namespace Go.Proofs.YtdakeicfhbggeaaGreat
namespace Lct
open Go Go.RowKit Sx Vec Ojt Scp
theorem spaces_fold : ∀ (L : List Su) (out : List Tx) (s : Tx), s ∈ L.foldl (fun out e => if 0 < e.2.length then Mkt.markL out e.1.1 else out) out ↔ s ∈ out ∨ ∃ e ∈ L, e.1.1 = s ∧ 0 < e.2.length
  | [], out, s => by simp
  | e :: L, out, s => by
    rw [List.foldl_cons, spaces_fold L]
    by_cases h : 0 < e.2.length
    · rw [if_pos h, Mkt.mark_mem]
      constructor
      · rintro ((rfl | h1) | ⟨x, hx, h2⟩)
        · exact .inr ⟨e, List.mem_cons_self, rfl, h⟩
        · exact .inl h1
        · exact .inr ⟨x, List.mem_cons_of_mem _ hx, h2⟩
      · rintro (h1 | ⟨x, hx, h2, h3⟩)
        · exact .inl (.inr h1)
        · rcases List.mem_cons.1 hx with rfl | hx
          · exact .inl (.inl h2.symm)
          · exact .inr ⟨x, hx, h2, h3⟩
    · rw [if_neg h]
      constructor
      · rintro (h1 | ⟨x, hx, h2⟩)
        · exact .inl h1
        · exact .inr ⟨x, List.mem_cons_of_mem _ hx, h2⟩
      · rintro (h1 | ⟨x, hx, h2, h3⟩)
        · exact .inl h1
        · rcases List.mem_cons.1 hx with rfl | hx
          · exact absurd h3 h
          · exact .inr ⟨x, hx, h2, h3⟩
theorem spaces_rise : ∀ (L : List Su) {out : List Tx}, Mkt.RiseN out → Mkt.RiseN (L.foldl (fun out e => if 0 < e.2.length then Mkt.markL out e.1.1 else out) out)
  | [], _, h => h
  | e :: L, out, h => by
    rw [List.foldl_cons]
    refine spaces_rise L ?_
    split
    · exact Mkt.mark_rise h _
    · exact h
end Lct
end Go.Proofs.YtdakeicfhbggeaaGreat
/- Lcx: How many objects a cache has behind so many events; whose charges they are; conditions: none. -/
namespace Go.Proofs.YtdakeicfhbggeaaGreat
namespace Lct
open Go Go.RowKit Sx Vec Ojt Scp
end Lct
end Go.Proofs.YtdakeicfhbggeaaGreat
/- Lcy: An event, its deltas, and the sums behind them, as facts; conditions: none. -/
namespace Go.Proofs.YtdakeicfhbggeaaGreat
namespace Lct
open Go Go.RowKit Sx Vec Ojt Scp
theorem wf_zO : wfO Chm.zO := ⟨Nat.zero_le _, Nat.zero_le _, Nat.zero_le _, Nat.zero_le _, Nat.zero_le _, fun r hr => by cases hr⟩
end Lct
end Go.Proofs.YtdakeicfhbggeaaGreat
