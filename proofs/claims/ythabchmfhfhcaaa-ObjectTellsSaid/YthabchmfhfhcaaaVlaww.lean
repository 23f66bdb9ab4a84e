/- Walk of layer 4: VectorWithin; conditions: the quantities' table as it was laid. -/
import Derived.Test.YthabchmfhfhcaaaVlawm
namespace Go.Proofs.Ythabchmfhfhcaaa
namespace Vec
open Go Go.RowKit Sx Wid Lab
attribute [local irreducible] Go.Calls

theorem right_of {es : List Ent} (hr : Rise es) (h : ∀ e ∈ es, rightB e.1 = true ∧ e.2 ≠ 0) : rightV es = true := right_t fun j hj => by
  obtain ⟨e, he⟩ := getI hj
  have hok : okE e = true := by
    have := h e (List.mem_of_getElem? he)
    simp [okE, this.1, this.2]
  unfold okAt
  rw [he]
  simp only [hok, Bool.true_and]
  cases j with
  | zero => rfl
  | succ k =>
    obtain ⟨p, hp⟩ := getI (show k < es.length by omega)
    simp only [hp]
    exact rise_at hr hp he (Nat.lt_succ_self k)
theorem over_none {es : List Ent} : ∀ {fs : List Ent}, overL es fs = none → ∀ h ∈ fs, ¬ getV es h.1 > h.2
  | f :: fs, ho, h, hm => by
    unfold overL at ho
    split at ho
    · cases ho
    · rename_i hn
      rcases List.mem_cons.1 hm with rfl | hm
      · exact hn
      · exact over_none ho h hm
theorem none_over {es : List Ent} : ∀ {fs : List Ent}, (∀ h ∈ fs, ¬ getV es h.1 > h.2) → overL es fs = none
  | [], _ => rfl
  | f :: fs, h => by
    unfold overL
    rw [if_neg (h f List.mem_cons_self)]
    exact none_over fun x hx => h x (List.mem_cons_of_mem _ hx)
theorem over_some {es : List Ent} : ∀ {fs : List Ent} {nm : Nm}, Rise fs → overL es fs = some nm → ∀ f ∈ fs, (f.1 = nm → getV es f.1 > f.2) ∧ (lt f.1 nm = true → ¬ getV es f.1 > f.2)
  | f :: fs, nm, hr, ho, x, hx => by
    obtain ⟨h1, h2⟩ := rise_cons hr
    unfold overL at ho
    split at ho
    · rename_i hgt
      cases ho
      rcases List.mem_cons.1 hx with rfl | hx
      · exact ⟨fun _ => hgt, fun h => by rw [lt_irrefl] at h; cases h⟩
      · exact ⟨fun h => absurd h (lt_ne (h1 x hx)).symm, fun h => by rw [lt_asymm (h1 x hx)] at h; cases h⟩
    · rename_i hn
      rcases List.mem_cons.1 hx with rfl | hx
      · refine ⟨fun h => ?_, fun _ => hn⟩
        exfalso
        have : ∃ y ∈ fs, y.1 = nm := by
          clear hn hr h1 h2 hx h
          induction fs with
          | nil => cases ho
          | cons y fs ih =>
            unfold overL at ho
            split at ho
            · cases ho; exact ⟨y, List.mem_cons_self, rfl⟩
            · obtain ⟨z, hz, h⟩ := ih ho
              exact ⟨z, List.mem_cons_of_mem _ hz, h⟩
        obtain ⟨y, hy, h3⟩ := this
        exact lt_ne (h1 y hy) (h.trans h3.symm)
      · exact over_some h2 ho x hx
theorem comb_ok {less : Bool} {es fs : List Ent} (h : (combV less es fs).2 = 0) : rightV es = true ∧ rightV fs = true ∧ bothL less es es fs = some (combV less es fs).1 := by
  unfold combV at h ⊢
  split at h
  · rename_i hr
    simp only [Bool.and_eq_true] at hr
    cases hb : bothL less es es fs with
    | none => rw [hb] at h; simp at h
    | some o => simp [hr.1, hr.2]
  · simp at h
theorem both_right {less : Bool} {es fs o : List Ent} (h1 : rightV es = true) (h2 : rightV fs = true) (h : bothL less es es fs = some o) : rightV o = true ∧ Rise o ∧ ∀ m, getV o m = opI less (getV es m) (getV fs m) :=
  have hr := both_rise (right_rise h1) h
  ⟨right_of hr (both_mem (p := fun e => rightB e.1 = true ∧ e.2 ≠ 0) (fun _ he => right_ok h1 he) (fun _ he _ hn _ => ⟨(right_ok h2 he).1, hn⟩) h), hr, both_all (right_rise h1) (right_rise h2) h⟩
theorem within_self {es : List Ent} (h : rightV es = true) : withinP es es = (true, []) := by
  unfold withinP
  rw [h, Bool.and_self, if_pos rfl, none_over fun e he => by rw [get_mem (right_rise h) he]; omega]
theorem within_more {es fs : List Ent} {m : Nm} {k : Int} (h1 : rightV es = true) (h2 : rightV fs = true) (hn : overL es fs = none) (hk : 0 < k) (hm : ∃ e ∈ fs, e.1 = m) (ho : (combV false fs [(m, k)]).2 = 0) : withinP es (combV false fs [(m, k)]).1 = (true, []) := by
  obtain ⟨h3, h4, hb⟩ := comb_ok ho
  obtain ⟨r1, r2, r3⟩ := both_right h3 h4 hb
  unfold withinP
  rw [h1, r1, Bool.and_self, if_pos rfl, none_over]
  intro h hh
  have hz := (right_ok r1 hh).2
  have hg := get_mem r2 hh
  rw [r3] at hg
  have hg2 : getV [(m, k)] h.1 = if h.1 = m then k else 0 := get_cons (m, k) [] h.1
  have hin : ∃ e ∈ fs, e.1 = h.1 := by
    by_cases hm2 : h.1 = m
    · rw [hm2]; exact hm
    · rw [hg2, if_neg hm2, op_x0] at hg
      obtain ⟨e, he, h5, -⟩ := get_some (v := fs) (m := h.1) (by rw [hg]; exact hz)
      exact ⟨e, he, h5⟩
  obtain ⟨e, he, h5⟩ := hin
  have h6 := over_none hn e he
  have h7 := get_mem (right_rise h2) he
  rw [h5] at h6 h7
  have h8 : opI false (getV fs h.1) (getV [(m, k)] h.1) = getV fs h.1 + getV [(m, k)] h.1 := rfl
  rw [h8, hg2] at hg
  split at hg <;> omega
theorem cells1 (m : Nm) (k : Int) (h : 0 ≤ k ∧ k < 9223372036854775808) : vcells [(m, k)] = [S m, I 0, U2 k] := by
  have hin : inW k := by unfold inW; omega
  have e1 : sHi k = 0 := by unfold sHi; rw [sN_in hin]; omega
  have e2 : sLo k = k := by unfold sLo; rw [sN_in hin]; omega
  show [S m, I (sHi k), .int .u64 (sLo k)] = _
  rw [e1, e2]

end Vec
end Go.Proofs.Ythabchmfhfhcaaa
