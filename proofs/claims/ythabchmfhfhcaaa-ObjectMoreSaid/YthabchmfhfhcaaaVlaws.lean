/- Walk of layer 4: VectorSums; conditions: the quantities' table as it was laid. -/
import Derived.Test.YthabchmfhfhcaaaVlaww
namespace Go.Proofs.Ythabchmfhfhcaaa
namespace Vec
open Go Go.RowKit Sx Wid Lab
attribute [local irreducible] Go.Calls

theorem both_ex {less : Bool} {es fs : List Ent} (hw : wfV es) (h2 : rightV fs = true) : (∃ o, bothL less es es fs = some o) ↔ ∀ m, inR (opI less (getV es m) (getV fs m)) = true := by
  constructor
  · rintro ⟨o, ho⟩ m
    by_cases hx : ∃ e ∈ fs, e.1 = m
    · obtain ⟨e, he, rfl⟩ := hx
      rw [get_mem (right_rise h2) he]
      exact both_in ho e he
    · rw [get_none (v := fs) fun e he h => hx ⟨e, he, h⟩, op_x0]
      exact inR_of (get_inW hw m)
  · intro h
    exact both_some es fun e he => by
      have := h e.1
      rwa [get_mem (right_rise h2) he] at this
/-- What a sum, or a difference, is, that there is. -/
theorem comb_is {less : Bool} {es fs o : List Ent} (hw : wfV es) (h1 : rightV es = true) (h2 : rightV fs = true) (h3 : rightV o = true) (hwo : wfV o) (h : ∀ m, getV o m = opI less (getV es m) (getV fs m)) : combV less es fs = (o, 0) := by
  obtain ⟨q, hq⟩ := (both_ex (less := less) hw h2).2 fun m => by rw [← h]; exact inR_of (get_inW hwo m)
  obtain ⟨r1, r2, r3⟩ := both_right h1 h2 hq
  have : q = o := rise_ext r2 (right_rise h3) (fun e he => (right_ok r1 he).2) (fun e he => (right_ok h3 he).2) fun m => by rw [r3, h]
  subst this
  unfold combV
  rw [h1, h2, hq]
  rfl
theorem comb_gets {less : Bool} {es fs : List Ent} (h : (combV less es fs).2 = 0) : rightV es = true ∧ rightV fs = true ∧ rightV (combV less es fs).1 = true ∧ ∀ m, getV (combV less es fs).1 m = opI less (getV es m) (getV fs m) := by
  obtain ⟨h1, h2, hb⟩ := comb_ok h
  obtain ⟨r1, -, r3⟩ := both_right h1 h2 hb
  exact ⟨h1, h2, r1, r3⟩
theorem comb_err {less : Bool} {es fs : List Ent} (h : (combV less es fs).2 ≠ 0) : (combV less es fs).1 = [] := by
  unfold combV at h ⊢
  split
  · rename_i hr
    rw [if_pos hr] at h
    cases hb : bothL less es es fs with
    | none => rfl
    | some o => rw [hb] at h; exact absurd rfl h
  · rfl
theorem op_add (x y : Int) : opI false x y = x + y := rfl
theorem op_sub (x y : Int) : opI true x y = x - y := rfl
theorem comb_comm {es fs : List Ent} (hw1 : wfV es) (hw2 : wfV fs) (l1 : es.length ≤ 400) (l2 : fs.length ≤ 400) : combV false es fs = combV false fs es := by
  by_cases h1 : rightV es = true
  · by_cases h2 : rightV fs = true
    · by_cases hx : (combV false es fs).2 = 0
      · obtain ⟨-, -, r3, r4⟩ := comb_gets hx
        have := comb_is (less := false) (es := fs) (fs := es) (o := (combV false es fs).1) hw2 h2 h1 r3 (wf_comb hw1 hw2 l1 l2).1 fun m => by rw [r4, op_add, op_add]; omega
        rw [this, ← hx]
      · by_cases hy : (combV false fs es).2 = 0
        · exfalso
          obtain ⟨-, -, r3, r4⟩ := comb_gets hy
          have := comb_is (less := false) (es := es) (fs := fs) (o := (combV false fs es).1) hw1 h1 h2 r3 (wf_comb hw2 hw1 l2 l1).1 fun m => by rw [r4, op_add, op_add]; omega
          rw [this] at hx
          exact hx rfl
        · have e1 := comb_err hx
          have e2 := comb_err hy
          have key : ∀ {us ts : List Ent}, rightV us = true → rightV ts = true → (combV false us ts).2 ≠ 0 → (combV false us ts).2 = 3 := fun {us ts} a b h => by
            unfold combV at h ⊢
            rw [a, b, Bool.and_self, if_pos rfl] at h ⊢
            cases hb : bothL false us us ts with
            | none => rfl
            | some o => rw [hb] at h; exact absurd rfl h
          exact Prod.ext (e1.trans e2.symm) ((key h1 h2 hx).trans (key h2 h1 hy).symm)
    · have h2 : rightV fs = false := by simpa using h2
      unfold combV
      rw [h2, Bool.and_false, Bool.false_and]
      rfl
  · have h1 : rightV es = false := by simpa using h1
    unfold combV
    rw [h1, Bool.and_false, Bool.false_and]
    rfl
theorem sub_back {es fs : List Ent} (hw1 : wfV es) (hw2 : wfV fs) (l1 : es.length ≤ 400) (l2 : fs.length ≤ 400) (h : (combV false es fs).2 = 0) : combV true (combV false es fs).1 fs = (es, 0) ∧ combV true (combV false es fs).1 es = (fs, 0) := by
  obtain ⟨h1, h2, r3, r4⟩ := comb_gets h
  have hwx := (wf_comb (less := false) hw1 hw2 l1 l2).1
  exact ⟨comb_is hwx r3 h2 h1 hw1 fun m => by rw [r4, op_add, op_sub]; omega, comb_is hwx r3 h1 h2 hw2 fun m => by rw [r4, op_add, op_sub]; omega⟩
theorem assoc {es fs gs : List Ent} (h1 : (combV false es fs).2 = 0) (h2 : (combV false (combV false es fs).1 gs).2 = 0) (h3 : (combV false fs gs).2 = 0) (h4 : (combV false es (combV false fs gs).1).2 = 0) :
    (combV false (combV false es fs).1 gs).1 = (combV false es (combV false fs gs).1).1 := by
  obtain ⟨-, -, -, r1⟩ := comb_gets h1
  obtain ⟨-, -, s2, r2⟩ := comb_gets h2
  obtain ⟨-, -, -, r3⟩ := comb_gets h3
  obtain ⟨-, -, s4, r4⟩ := comb_gets h4
  exact rise_ext (right_rise s2) (right_rise s4) (fun e he => (right_ok s2 he).2) (fun e he => (right_ok s4 he).2) fun m => by rw [r2, r1, r4, r3, op_add, op_add, op_add, op_add]; omega

end Vec
end Go.Proofs.Ythabchmfhfhcaaa
