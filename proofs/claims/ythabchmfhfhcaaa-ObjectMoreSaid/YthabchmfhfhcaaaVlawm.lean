/- Walk of layer 4: VectorMakes; conditions: the quantities' table as it was laid. -/
import Derived.Test.YthabchmfhfhcaaaVlawt
namespace Go.Proofs.Ythabchmfhfhcaaa
namespace Vec
open Go Go.RowKit Sx Wid Lab
attribute [local irreducible] Go.Calls

theorem fold_wf : ∀ (rs outs : List Ent) (B : Nat), (∀ r ∈ rs, r.1.length ≤ 100000 ∧ 0 ≤ r.2 ∧ r.2 ≤ 9223372036854775807) → (∀ e ∈ outs, e.1.length ≤ 100000 ∧ 0 ≤ e.2 ∧ e.2 ≤ (B : Int) * 9223372036854775807) →
    (∀ e ∈ rs.foldl addR outs, e.1.length ≤ 100000 ∧ 0 ≤ e.2 ∧ e.2 ≤ ((B + rs.length : Nat) : Int) * 9223372036854775807) ∧ (rs.foldl addR outs).length ≤ outs.length + rs.length
  | [], outs, B, _, h => ⟨by simpa using h, by simp⟩
  | r :: rs, outs, B, h1, h2 => by
    have hr := h1 r List.mem_cons_self
    obtain ⟨-, h4⟩ := add_rng (v := outs) (r := r) (B := (B : Int) * 9223372036854775807) (fun e he => (h2 e he).2) hr.2 (by omega)
    have hn : ∀ e ∈ addR outs r, e.1.length ≤ 100000 := fun e he => by
      rcases put_mem he with ⟨rfl, -⟩ | he
      · exact hr.1
      · exact (h2 e he).1
    have hp := (put_len (nm := r.1) (n := getV outs r.1 + r.2) outs (getV outs r.1 + r.2 == 0)).1
    have hp' : (addR outs r).length ≤ outs.length + 1 := hp
    obtain ⟨i1, i2⟩ := fold_wf rs (addR outs r) (B + 1) (fun x hx => h1 x (List.mem_cons_of_mem _ hx)) fun e he => ⟨hn e he, (h4 e he).1, by have := (h4 e he).2; omega⟩
    rw [List.foldl_cons]
    refine ⟨fun e he => ?_, by simp only [List.length_cons]; omega⟩
    have := i1 e he
    simp only [List.length_cons]
    rw [show B + (rs.length + 1) = B + 1 + rs.length by omega]
    exact this
theorem of_wf {rs : List Ent} (hw : wfR rs) : wfV (ofV rs).1 ∧ (ofV rs).1.length ≤ 16 := by
  have nil : wfV [] ∧ ([] : List Ent).length ≤ 16 := ⟨⟨by simp, fun e he => by simp at he⟩, by simp⟩
  unfold ofV
  split
  · rename_i hall
    split
    · rename_i h16
      rw [List.all_eq_true] at hall
      obtain ⟨h1, h2⟩ := fold_wf rs [] 0 (fun r hr => by
        have h3 := hw.2 r hr
        have h4 := hall r hr
        simp only [okR, Bool.and_eq_true, decide_eq_true_eq] at h4
        exact ⟨h3.1, h4.2, h3.2.2⟩) fun e he => by simp at he
      simp only [List.length_nil, Nat.zero_add] at h1 h2
      refine ⟨⟨by simp only; omega, fun e he => ⟨(h1 e he).1, ?_⟩⟩, by simp only; omega⟩
      have := h1 e he
      unfold inW
      omega
    · exact nil
  · exact nil
theorem parse_wf : ∀ (n : Nat) (outs : List Ent) (l : List UInt8), l.length ≤ 100000 → outs.length ≤ 16 → (∀ r ∈ outs, r.1.length ≤ 100000 ∧ -9223372036854775808 ≤ r.2 ∧ r.2 ≤ 9223372036854775807) →
    (parseL n outs l).1.length ≤ 16 ∧ ∀ r ∈ (parseL n outs l).1, r.1.length ≤ 100000 ∧ -9223372036854775808 ≤ r.2 ∧ r.2 ≤ 9223372036854775807
  | 0, outs, l, _, _, _ => ⟨by simp [parseL], fun r hr => by simp [parseL] at hr⟩
  | n + 1, outs, l, hl, ho, hw => by
    have hstep : parseL (n + 1) outs l = if badP outs l = true then ([], 2) else if (parQ (txP l)).2 ≠ 0 then ([], (parQ (txP l)).2)
      else if nx 44 l = l.length then (outs ++ [(nmP l, (parQ (txP l)).1)], 0) else parseL n (outs ++ [(nmP l, (parQ (txP l)).1)]) (l.drop (nx 44 l + 1)) := rfl
    have nil : ([] : List Ent).length ≤ 16 ∧ ∀ r ∈ ([] : List Ent), r.1.length ≤ 100000 ∧ -9223372036854775808 ≤ r.2 ∧ r.2 ≤ 9223372036854775807 := ⟨by simp, fun r hr => by simp at hr⟩
    rw [hstep]
    cases hb : badP outs l
    · rw [if_neg (by decide)]
      have h16 : outs.length ≠ 16 := fun h => by
        unfold badP at hb
        rw [show (outs.length == 16) = true from beq_iff_eq.2 h] at hb
        simp at hb
      by_cases hz : (parQ (txP l)).2 ≠ 0
      · rw [if_pos hz]; exact nil
      · rw [if_neg hz]
        obtain ⟨q0, q1, -⟩ := parQ_rng (txP l)
        have hnl : (nmP l).length ≤ 100000 := by
          unfold nmP partP
          rw [List.length_take, List.length_take]
          omega
        have hw2 : ∀ r ∈ outs ++ [(nmP l, (parQ (txP l)).1)], r.1.length ≤ 100000 ∧ -9223372036854775808 ≤ r.2 ∧ r.2 ≤ 9223372036854775807 := fun r hr => by
          rcases List.mem_append.1 hr with hr | hr
          · exact hw r hr
          · obtain rfl : r = (nmP l, (parQ (txP l)).1) := by simpa using hr
            exact ⟨hnl, by show -9223372036854775808 ≤ (parQ (txP l)).1; omega, q1⟩
        have hl2 : (outs ++ [(nmP l, (parQ (txP l)).1)]).length ≤ 16 := by simp; omega
        split
        · exact ⟨hl2, hw2⟩
        · exact parse_wf n _ _ (by rw [List.length_drop]; omega) hl2 hw2
    · rw [if_pos rfl]; exact nil
theorem parseV_wf {l : List UInt8} (hl : l.length ≤ 100000) : wfR (parseV l).1 := by
  unfold parseV
  split
  · exact ⟨by simp, fun r hr => by simp at hr⟩
  · obtain ⟨h1, h2⟩ := parse_wf (l.length + 1) [] l hl (by simp) fun r hr => by simp at hr
    exact ⟨by omega, h2⟩

end Vec
end Go.Proofs.Ythabchmfhfhcaaa
