/- The landed merge is the document's sum and difference; contracts of the landed combined, Add, Sub, Of of layer 4; conditions: at most 1,000 entries, names of at most 100,000 bytes, numbers of 128 bits, slices with room for no less than they have. -/
import Derived.Test.YthabchmfhfhcaaaVmerge
namespace Go.Proofs.Ythabchmfhfhcaaa
namespace Vec
open Go Go.RowKit Sx Wid Lab
attribute [local irreducible] Go.Calls

/-- What a merge is. -/
def MrgIs (less : Bool) (us ts o : List Ent) : Prop :=
  (∀ m, getV o m = opI less (getV us m) (getV ts m)) ∧ Rise o ∧ (∀ e ∈ o, e.2 ≠ 0) ∧ (∀ k, (∀ x ∈ us, lt k x.1 = true) → (∀ x ∈ ts, lt k x.1 = true) → ∀ e ∈ o, lt k e.1 = true) ∧ ∀ m, inR (opI less (getV us m) (getV ts m)) = true
theorem op00 (less : Bool) : opI less 0 0 = 0 := by unfold opI; split <;> rfl
theorem inR0 : inR 0 = true := by decide
theorem get_above {m : Nm} {us : List Ent} (h : ∀ x ∈ us, lt m x.1 = true) : getV us m = 0 := get_none fun e he => (lt_ne (h e he)).symm
theorem con_some {less : Bool} {m : Nm} {x y : Int} {r : Option (List Ent)} {o : List Ent} (h : conL less m x y r = some o) : inR (opI less x y) = true ∧ ∃ l, r = some l ∧ o = if opI less x y = 0 then l else (m, opI less x y) :: l := by
  unfold conL at h
  split at h
  · rename_i hi
    refine ⟨hi, ?_⟩
    cases r with
    | none => cases h
    | some l => exact ⟨l, rfl, by simpa using h.symm⟩
  · cases h
theorem mrg_step {less : Bool} {m0 : Nm} {X Y : Int} {us us' ts ts' l o : List Ent} (hu : ∀ m, getV us m = if m = m0 then X else getV us' m) (ht : ∀ m, getV ts m = if m = m0 then Y else getV ts' m)
    (hup : ∀ e ∈ us', lt m0 e.1 = true) (htp : ∀ e ∈ ts', lt m0 e.1 = true) (ih : MrgIs less us' ts' l) (hin : inR (opI less X Y) = true) (ho : o = if opI less X Y = 0 then l else (m0, opI less X Y) :: l)
    (h0 : (∃ x ∈ us, x.1 = m0) ∨ ∃ x ∈ ts, x.1 = m0) : MrgIs less us ts o := by
  obtain ⟨i1, i2, i3, i4, i5⟩ := ih
  have hl := i4 m0 hup htp
  have hl0 : getV l m0 = 0 := get_above hl
  refine ⟨fun m => ?_, ?_, ?_, fun k hk1 hk2 e he => ?_, fun m => ?_⟩
  · rw [hu, ht]
    by_cases hm : m = m0
    · subst hm
      rw [if_pos rfl, if_pos rfl, ho]
      split
      · rename_i hz; rw [hl0, hz]
      · show (if m = m then _ else _) = _; rw [if_pos rfl]
    · rw [if_neg hm, if_neg hm, ← i1, ho]
      split
      · rfl
      · show (if m0 = m then _ else _) = _; rw [if_neg (Ne.symm hm)]
  · rw [ho]
    split
    · exact i2
    · unfold Rise at i2 ⊢; exact List.pairwise_cons.2 ⟨hl, i2⟩
  · rw [ho]
    split
    · exact i3
    · rename_i hz
      intro e he
      rcases List.mem_cons.1 he with rfl | he
      · exact hz
      · exact i3 e he
  · have hkm : lt k m0 = true := by
      rcases h0 with ⟨x, hx, rfl⟩ | ⟨x, hx, rfl⟩
      · exact hk1 x hx
      · exact hk2 x hx
    rw [ho] at he
    split at he
    · exact lt_trans hkm (hl e he)
    · rcases List.mem_cons.1 he with rfl | he
      · exact hkm
      · exact lt_trans hkm (hl e he)
  · rw [hu, ht]
    split
    · exact hin
    · exact i5 m
theorem get_cons (e : Ent) (us : List Ent) (m : Nm) : getV (e :: us) m = if m = e.1 then e.2 else getV us m := by
  show (if e.1 = m then e.2 else getV us m) = _
  by_cases h : m = e.1
  · rw [if_pos h, if_pos h.symm]
  · rw [if_neg h, if_neg (Ne.symm h)]
theorem get_same {us : List Ent} {m0 : Nm} (h : ∀ x ∈ us, lt m0 x.1 = true) (m : Nm) : getV us m = if m = m0 then 0 else getV us m := by
  by_cases hm : m = m0
  · rw [if_pos hm, hm]; exact get_above h
  · rw [if_neg hm]
theorem rise_cons {e : Ent} {us : List Ent} (h : Rise (e :: us)) : (∀ x ∈ us, lt e.1 x.1 = true) ∧ Rise us := by
  unfold Rise at h ⊢
  rw [List.pairwise_cons] at h
  exact h
theorem above_all {a : Nm} {f : Ent} {ts : List Ent} (h : lt a f.1 = true) (hr : Rise (f :: ts)) : ∀ x ∈ f :: ts, lt a x.1 = true := fun x hx => by
  rcases List.mem_cons.1 hx with rfl | hx
  · exact h
  · exact lt_trans h ((rise_cons hr).1 x hx)
theorem mrg_is {less : Bool} : ∀ (n : Nat) (us ts o : List Ent), us.length + ts.length < n → Rise us → Rise ts → mrgL less n us ts = some o → MrgIs less us ts o
  | 0, _, _, _, h, _, _, _ => by omega
  | n + 1, [], [], o, _, _, _, h => by
    simp only [mrgL, Option.some.injEq] at h
    subst h
    exact ⟨fun m => (op00 less).symm, List.Pairwise.nil, fun e he => by simp at he, fun _ _ _ e he => by simp at he, fun m => by show inR (opI less 0 0) = true; rw [op00]; exact inR0⟩
  | n + 1, e :: us, [], o, hn, hu, ht, h => by
    obtain ⟨hin, l, hr, ho⟩ := con_some (show conL less e.1 e.2 0 (mrgL less n us []) = some o from h)
    have ih := mrg_is n us [] l (by simp at hn ⊢; omega) (rise_cons hu).2 ht hr
    exact mrg_step (get_cons e us) (get_same fun x hx => by simp at hx) (rise_cons hu).1 (fun x hx => by simp at hx) ih hin ho (.inl ⟨e, List.mem_cons_self, rfl⟩)
  | n + 1, [], f :: ts, o, hn, hu, ht, h => by
    obtain ⟨hin, l, hr, ho⟩ := con_some (show conL less f.1 0 f.2 (mrgL less n [] ts) = some o from h)
    have ih := mrg_is n [] ts l (by simp at hn ⊢; omega) hu (rise_cons ht).2 hr
    exact mrg_step (get_same fun x hx => by simp at hx) (get_cons f ts) (fun x hx => by simp at hx) (rise_cons ht).1 ih hin ho (.inr ⟨f, List.mem_cons_self, rfl⟩)
  | n + 1, e :: us, f :: ts, o, hn, hu, ht, h => by
    simp only [List.length_cons] at hn
    have hstep : mrgL less (n + 1) (e :: us) (f :: ts) = if lt e.1 f.1 then conL less e.1 e.2 0 (mrgL less n us (f :: ts)) else if lt f.1 e.1 then conL less f.1 0 f.2 (mrgL less n (e :: us) ts) else conL less e.1 e.2 f.2 (mrgL less n us ts) := rfl
    rw [hstep] at h
    cases hA : lt e.1 f.1
    · rw [hA, if_neg (by decide)] at h
      cases hB : lt f.1 e.1
      · rw [hB, if_neg (by decide)] at h
        have heq := lt_total hA hB
        obtain ⟨hin, l, hr, ho⟩ := con_some h
        have ih := mrg_is n us ts l (by omega) (rise_cons hu).2 (rise_cons ht).2 hr
        exact mrg_step (get_cons e us) (by rw [heq]; exact get_cons f ts) (rise_cons hu).1 (by rw [heq]; exact (rise_cons ht).1) ih hin ho (.inl ⟨e, List.mem_cons_self, rfl⟩)
      · rw [hB, if_pos rfl] at h
        obtain ⟨hin, l, hr, ho⟩ := con_some h
        have ih := mrg_is n (e :: us) ts l (by simp; omega) hu (rise_cons ht).2 hr
        exact mrg_step (get_same (above_all hB hu)) (get_cons f ts) (above_all hB hu) (rise_cons ht).1 ih hin ho (.inr ⟨f, List.mem_cons_self, rfl⟩)
    · rw [hA, if_pos rfl] at h
      obtain ⟨hin, l, hr, ho⟩ := con_some h
      have ih := mrg_is n us (f :: ts) l (by simp; omega) (rise_cons hu).2 ht hr
      exact mrg_step (get_cons e us) (get_same (above_all hA ht)) (rise_cons hu).1 (above_all hA ht) ih hin ho (.inl ⟨e, List.mem_cons_self, rfl⟩)
theorem con_ex {less : Bool} {m : Nm} {x y : Int} {r : Option (List Ent)} (h1 : inR (opI less x y) = true) (h2 : ∃ l, r = some l) : ∃ o, conL less m x y r = some o := by
  obtain ⟨l, rfl⟩ := h2
  unfold conL
  rw [if_pos h1]
  exact ⟨_, rfl⟩
theorem rest_in {less : Bool} {m0 : Nm} {us us' ts ts' : List Ent} {X Y : Int} (hu : ∀ m, getV us m = if m = m0 then X else getV us' m) (ht : ∀ m, getV ts m = if m = m0 then Y else getV ts' m)
    (hup : ∀ e ∈ us', lt m0 e.1 = true) (htp : ∀ e ∈ ts', lt m0 e.1 = true) (h : ∀ m, inR (opI less (getV us m) (getV ts m)) = true) : inR (opI less X Y) = true ∧ ∀ m, inR (opI less (getV us' m) (getV ts' m)) = true := by
  constructor
  · have := h m0
    rwa [hu, ht, if_pos rfl, if_pos rfl] at this
  · intro m
    by_cases hm : m = m0
    · rw [hm, get_above hup, get_above htp, op00]; exact inR0
    · have := h m
      rwa [hu, ht, if_neg hm, if_neg hm] at this
theorem mrg_ex {less : Bool} : ∀ (n : Nat) (us ts : List Ent), us.length + ts.length < n → Rise us → Rise ts → (∀ m, inR (opI less (getV us m) (getV ts m)) = true) → ∃ o, mrgL less n us ts = some o
  | 0, _, _, h, _, _, _ => by omega
  | n + 1, [], [], _, _, _, _ => ⟨[], rfl⟩
  | n + 1, e :: us, [], hn, hu, ht, h => by
    obtain ⟨h1, h2⟩ := rest_in (get_cons e us) (get_same fun x hx => by simp at hx) (rise_cons hu).1 (fun x hx => by simp at hx) h
    exact con_ex h1 (mrg_ex n us [] (by simp at hn ⊢; omega) (rise_cons hu).2 ht h2)
  | n + 1, [], f :: ts, hn, hu, ht, h => by
    obtain ⟨h1, h2⟩ := rest_in (get_same fun x hx => by simp at hx) (get_cons f ts) (fun x hx => by simp at hx) (rise_cons ht).1 h
    exact con_ex h1 (mrg_ex n [] ts (by simp at hn ⊢; omega) hu (rise_cons ht).2 h2)
  | n + 1, e :: us, f :: ts, hn, hu, ht, h => by
    simp only [List.length_cons] at hn
    have hstep : mrgL less (n + 1) (e :: us) (f :: ts) = if lt e.1 f.1 then conL less e.1 e.2 0 (mrgL less n us (f :: ts)) else if lt f.1 e.1 then conL less f.1 0 f.2 (mrgL less n (e :: us) ts) else conL less e.1 e.2 f.2 (mrgL less n us ts) := rfl
    rw [hstep]
    cases hA : lt e.1 f.1
    · rw [if_neg (by decide)]
      cases hB : lt f.1 e.1
      · rw [if_neg (by decide)]
        have heq := lt_total hA hB
        obtain ⟨h1, h2⟩ := rest_in (get_cons e us) (by rw [heq]; exact get_cons f ts) (rise_cons hu).1 (by rw [heq]; exact (rise_cons ht).1) h
        exact con_ex h1 (mrg_ex n us ts (by omega) (rise_cons hu).2 (rise_cons ht).2 h2)
      · rw [if_pos rfl]
        obtain ⟨h1, h2⟩ := rest_in (get_same (above_all hB hu)) (get_cons f ts) (above_all hB hu) (rise_cons ht).1 h
        exact con_ex h1 (mrg_ex n (e :: us) ts (by simp; omega) hu (rise_cons ht).2 h2)
    · rw [if_pos rfl]
      obtain ⟨h1, h2⟩ := rest_in (get_cons e us) (get_same (above_all hA ht)) (rise_cons hu).1 (above_all hA ht) h
      exact con_ex h1 (mrg_ex n us (f :: ts) (by simp; omega) (rise_cons hu).2 ht h2)
theorem inR_of {x : Int} (h : inW x) : inR x = true := by rw [← inR_iff]; exact decide_eq_true h
theorem op_x0 (less : Bool) (x : Int) : opI less x 0 = x := by unfold opI; split <;> omega
/-- The merge is the document's sum, or difference. -/
theorem mrg_both {less : Bool} {es fs : List Ent} {n : Nat} (hw1 : wfV es) (h1 : rightV es = true) (h2 : rightV fs = true) (hn : es.length + fs.length < n) : mrgL less n es fs = bothL less es es fs := by
  have r1 := right_rise h1
  have r2 := right_rise h2
  have key : ∀ o1, bothL less es es fs = some o1 → mrgL less n es fs = some o1 := fun o1 ho1 => by
    have hall : ∀ m, inR (opI less (getV es m) (getV fs m)) = true := fun m => by
      by_cases hx : ∃ e ∈ fs, e.1 = m
      · obtain ⟨e, he, rfl⟩ := hx
        rw [get_mem r2 he]
        exact both_in ho1 e he
      · rw [get_none (v := fs) fun e he h => hx ⟨e, he, h⟩, op_x0]
        exact inR_of (get_inW hw1 m)
    obtain ⟨o2, ho2⟩ := mrg_ex n es fs hn r1 r2 hall
    obtain ⟨i1, i2, i3, -, -⟩ := mrg_is n es fs o2 hn r1 r2 ho2
    rw [ho2, rise_ext i2 (both_rise r1 ho1) i3 (both_mem (p := fun e => e.2 ≠ 0) (fun e he => (right_ok h1 he).2) (fun e he n hn _ => hn) ho1) fun m => by rw [i1, both_all r1 r2 ho1]]
  cases hb : bothL less es es fs with
  | some o1 => exact key o1 hb
  | none =>
    cases hm : mrgL less n es fs with
    | none => rfl
    | some o =>
      obtain ⟨-, -, -, -, i5⟩ := mrg_is n es fs o hn r1 r2 hm
      obtain ⟨o1, ho1⟩ := both_some (less := less) (a := es) (b := fs) es fun e he => by
        have := i5 e.1
        rwa [get_mem r2 he] at this
      rw [hb] at ho1
      cases ho1
/-- One resource more. -/
theorem mrg_one {v : List Ent} {m : Nm} {x : Int} {n : Nat} (hr : Rise v) (h0 : ∀ e ∈ v, e.2 ≠ 0) (hin : inW (getV v m + x)) (hall : ∀ k, inW (getV v k)) (hn : v.length + 1 < n) : mrgL false n v [(m, x)] = some (addR v (m, x)) := by
  have r2 : Rise [(m, x)] := by unfold Rise; simp
  have hg : ∀ k, getV [(m, x)] k = if k = m then x else 0 := fun k => get_cons (m, x) [] k
  have hR : ∀ k, inR (opI false (getV v k) (getV [(m, x)] k)) = true := fun k => by
    rw [hg]
    by_cases hk : k = m
    · rw [if_pos hk, hk]; exact inR_of hin
    · rw [if_neg hk, op_x0]; exact inR_of (hall k)
  obtain ⟨o, ho⟩ := mrg_ex n v [(m, x)] (by simpa using hn) hr r2 hR
  obtain ⟨i1, i2, i3, -, -⟩ := mrg_is n v [(m, x)] o (by simpa using hn) hr r2 ho
  rw [ho]
  congr 1
  refine rise_ext i2 (put_rise hr) i3 (fun e he => ?_) fun k => ?_
  · rcases put_mem he with ⟨rfl, hz⟩ | he
    · exact hz
    · exact h0 e he
  · rw [i1, hg]
    unfold addR
    rw [put_get hr]
    by_cases hk : k = m
    · rw [if_pos hk, if_pos hk, hk]; rfl
    · rw [if_neg hk, if_neg hk, op_x0]
end Vec
end Go.Proofs.Ythabchmfhfhcaaa
