/- Resources: their cells, where they lie; conditions: none. -/
import Derived.Test.YtkjjlppfomidbaaGreatSxz
import Derived.Test.YtkjjlppfomidbaaGreatBord
import Derived.Test.YtkjjlppfomidbaaGreatTy
import Derived.Test.YtkjjlppfomidbaaGreatLabs
import Derived.Test.YtkjjlppfomidbaaGreatWrtext
/- Vres: Resources: their cells, where they lie; conditions: none. -/
namespace Go.Proofs.YtkjjlppfomidbaaGreat
namespace Vec
open Go Go.RowKit Sx
abbrev Nm := List UInt8
abbrev Ent := Nm × Int
theorem getI {α : Type} {l : List α} {i : Nat} (h : i < l.length) : ∃ a, l[i]? = some a := ⟨_, List.getElem?_eq_getElem h⟩
def cellsR (r : Ent) : List Value := [S r.1, I r.2]
theorem cellsR_len (r : Ent) : (cellsR r).length = 2 := rfl
abbrev rcells (l : List Ent) : List Value := l.flatMap cellsR
def ResAt (w : World) (v : Value) (rs : List Ent) : Prop := OldRow w 2 v rs.length (rcells rs)
theorem ResAt.below {w w' : World} {v : Value} {rs : List Ent} (h : ResAt w v rs) (hb : Below w.heap.size w w') : ResAt w' v rs := OldRow.below h hb
def wfR (rs : List Ent) : Prop := rs.length ≤ 100000 ∧ ∀ r ∈ rs, r.1.length ≤ 100000 ∧ -9223372036854775808 ≤ r.2 ∧ r.2 ≤ 9223372036854775807
theorem wfR.at {rs : List Ent} (h : wfR rs) {i : Nat} {r : Ent} (hi : rs[i]? = some r) : r.1.length ≤ 100000 ∧ -9223372036854775808 ≤ r.2 ∧ r.2 ≤ 9223372036854775807 := h.2 r (List.mem_of_getElem? hi)
theorem res_cells {w : World} {g b : Nat} {r : Ent} (hc : ∀ (k : Nat) u, (cellsR r)[k]? = some u → w.cell? ⟨g, b + k, none⟩ = some u) :
    w.cell? ⟨g, b + 0, none⟩ = some (S r.1) ∧ w.cell? ⟨g, b + 1, none⟩ = some (I r.2) ∧ ∀ (j : Nat) u, [S r.1, I r.2][j]? = some u → w.cell? ⟨g, b + j, none⟩ = some u := ⟨hc 0 _ rfl, hc 1 _ rfl, hc⟩
end Vec
end Go.Proofs.YtkjjlppfomidbaaGreat
/- Vrsc: Contract of the document's answer for layer 4: Resources; conditions: names of at most 100,000 bytes, at most 100,000 resources. -/
namespace Go.Proofs.YtkjjlppfomidbaaGreat
namespace Vec
open Go Go.RowKit Sx
attribute [local irreducible] Go.Calls
end Vec
end Go.Proofs.YtkjjlppfomidbaaGreat
/- Vmath: Vectors as lists of names and whole numbers: plain facts, of no program; conditions: none. -/
namespace Go.Proofs.YtkjjlppfomidbaaGreat
namespace Vec
open Go Bord
abbrev lt (a b : Nm) : Bool := Op.bytesLess a b
theorem lt_irrefl (a : Nm) : lt a a = false := bl_irrefl a
theorem lt_asymm {a b : Nm} (h : lt a b = true) : lt b a = false := bl_asymm _ _ h
theorem lt_trans {a b c : Nm} (h : lt a b = true) (g : lt b c = true) : lt a c = true := bl_trans _ _ _ h g
theorem lt_total {a b : Nm} (h : lt a b = false) (g : lt b a = false) : a = b := bl_total _ _ h g
theorem lt_ne {a b : Nm} (h : lt a b = true) : a ≠ b := fun e => by subst e; rw [lt_irrefl] at h; cases h
def getV : List Ent → Nm → Int
  | [], _ => 0
  | e :: v, m => if e.1 = m then e.2 else getV v m
def Rise (v : List Ent) : Prop := v.Pairwise fun a b => lt a.1 b.1 = true
theorem get_none {v : List Ent} {m : Nm} (h : ∀ e ∈ v, e.1 ≠ m) : getV v m = 0 := by
  induction v with
  | nil => rfl
  | cons e v ih =>
    unfold getV
    rw [if_neg (h e List.mem_cons_self)]
    exact ih fun f hf => h f (List.mem_cons_of_mem _ hf)
theorem get_mem {v : List Ent} (hr : Rise v) {e : Ent} (he : e ∈ v) : getV v e.1 = e.2 := by
  induction v with
  | nil => simp at he
  | cons f v ih =>
    unfold Rise at hr
    rw [List.pairwise_cons] at hr
    unfold getV
    rcases List.mem_cons.1 he with rfl | he
    · rw [if_pos rfl]
    · rw [if_neg (lt_ne (hr.1 e he))]
      exact ih hr.2 he
theorem get_some {v : List Ent} {m : Nm} (h : getV v m ≠ 0) : ∃ e ∈ v, e.1 = m ∧ e.2 = getV v m := by
  induction v with
  | nil => exact absurd rfl h
  | cons f v ih =>
    unfold getV at h ⊢
    by_cases hf : f.1 = m
    · rw [if_pos hf]; exact ⟨f, List.mem_cons_self, hf, rfl⟩
    · rw [if_neg hf] at h ⊢
      obtain ⟨e, he, h1, h2⟩ := ih h
      exact ⟨e, List.mem_cons_of_mem _ he, h1, h2⟩
theorem rise_ext : ∀ {v u : List Ent}, Rise v → Rise u → (∀ e ∈ v, e.2 ≠ 0) → (∀ e ∈ u, e.2 ≠ 0) → (∀ m, getV v m = getV u m) → v = u
  | [], [], _, _, _, _, _ => rfl
  | [], f :: u, _, hu, _, nu, hg => by
    have := hg f.1
    rw [get_mem hu List.mem_cons_self] at this
    exact absurd this.symm (nu f List.mem_cons_self)
  | e :: v, [], hv, _, nv, _, hg => by
    have := hg e.1
    rw [get_mem hv List.mem_cons_self] at this
    exact absurd this (nv e List.mem_cons_self)
  | e :: v, f :: u, hv, hu, nv, nu, hg => by
    have hv' := List.pairwise_cons.1 hv
    have hu' := List.pairwise_cons.1 hu
    have key : e.1 = f.1 := by
      have h1 := hg e.1
      rw [get_mem hv List.mem_cons_self] at h1
      have h2 := hg f.1
      rw [get_mem hu List.mem_cons_self] at h2
      have n1 := nv e List.mem_cons_self
      have n2 := nu f List.mem_cons_self
      obtain ⟨g, hg1, hg2, -⟩ := get_some (v := f :: u) (m := e.1) (by rw [← h1]; exact n1)
      obtain ⟨k, hk1, hk2, -⟩ := get_some (v := e :: v) (m := f.1) (by rw [h2]; exact n2)
      rcases List.mem_cons.1 hg1 with rfl | hg1
      · exact hg2.symm
      · rcases List.mem_cons.1 hk1 with rfl | hk1
        · exact hk2
        · have a1 := hu'.1 g hg1
          have a2 := hv'.1 k hk1
          rw [hg2] at a1
          rw [hk2] at a2
          exact absurd (lt_asymm a1) (by rw [a2]; decide)
    have e2 : e.2 = f.2 := by
      have h1 := hg e.1
      rw [get_mem hv List.mem_cons_self, key, get_mem hu List.mem_cons_self] at h1
      exact h1
    have ht : v = u := rise_ext hv'.2 hu'.2 (fun x hx => nv x (List.mem_cons_of_mem _ hx)) (fun x hx => nu x (List.mem_cons_of_mem _ hx)) fun m => by
      by_cases hm : e.1 = m
      · subst hm
        rw [get_none fun x hx => (lt_ne (hv'.1 x hx)).symm, get_none fun x hx => by rw [key]; exact (lt_ne (hu'.1 x hx)).symm]
      · have h1 := hg m
        unfold getV at h1
        rw [if_neg hm, if_neg (by rw [← key]; exact hm)] at h1
        exact h1
    rw [ht, Prod.ext key e2]
def putL (nm : Nm) (n : Int) : Bool → List Ent → List Ent
  | d, [] => if d then [] else [(nm, n)]
  | d, e :: v => (if (!d && lt nm e.1) = true then [(nm, n)] else []) ++ ((if e.1 = nm then [] else [e]) ++ putL nm n (d || lt nm e.1) v)
def putV (v : List Ent) (nm : Nm) (n : Int) : List Ent := putL nm n (n == 0) v
theorem putL_mem {nm : Nm} {n : Int} : ∀ {v : List Ent} {d : Bool} {e : Ent}, e ∈ putL nm n d v → (e = (nm, n) ∧ d = false) ∨ (e ∈ v ∧ e.1 ≠ nm)
  | [], d, e, h => by
    unfold putL at h
    cases d <;> simp at h
    exact .inl ⟨h, rfl⟩
  | f :: v, d, e, h => by
    unfold putL at h
    rcases List.mem_append.1 h with h | h
    · split at h
      · rename_i hc
        simp only [Bool.and_eq_true, Bool.not_eq_true'] at hc
        exact .inl ⟨by simpa using h, hc.1⟩
      · simp at h
    · rcases List.mem_append.1 h with h | h
      · split at h
        · simp at h
        · rename_i hne
          have : e = f := by simpa using h
          subst this
          exact .inr ⟨List.mem_cons_self, hne⟩
      · rcases putL_mem h with ⟨h1, h2⟩ | ⟨h1, h2⟩
        · exact .inl ⟨h1, by simp at h2; exact h2.1⟩
        · exact .inr ⟨List.mem_cons_of_mem _ h1, h2⟩
theorem putL_rise {nm : Nm} {n : Int} : ∀ {v : List Ent} {d : Bool}, Rise v → Rise (putL nm n d v)
  | [], d, _ => by unfold putL Rise; cases d <;> simp
  | e :: v, d, h => by
    have h' := List.pairwise_cons.1 h
    have ih := fun d => putL_rise (nm := nm) (n := n) (d := d) h'.2
    unfold putL
    have tail : ∀ d', (d' = true ∨ lt nm e.1 = false) → Rise ((if e.1 = nm then [] else [e]) ++ putL nm n d' v) := fun d' hd => by
      by_cases he : e.1 = nm
      · rw [if_pos he]; exact ih _
      · rw [if_neg he]
        refine List.pairwise_cons.2 ⟨fun x hx => ?_, ih _⟩
        rcases putL_mem hx with ⟨rfl, h2⟩ | ⟨h1, h2⟩
        · rcases hd with hd | hd
          · rw [hd] at h2; cases h2
          · by_cases hlt : lt e.1 nm = true
            · exact hlt
            · exact absurd (lt_total (by simpa using hlt) hd) he
        · exact h'.1 x h1
    by_cases hc : (!d && lt nm e.1) = true
    · rw [if_pos hc]
      simp only [Bool.and_eq_true, Bool.not_eq_true'] at hc
      have hne : e.1 ≠ nm := (lt_ne hc.2).symm
      rw [hc.2, Bool.or_true]
      refine List.pairwise_cons.2 ⟨fun x hx => ?_, tail true (.inl rfl)⟩
      rw [if_neg hne] at hx
      rcases List.mem_cons.1 (by simpa using hx) with rfl | hx
      · exact hc.2
      · rcases putL_mem hx with ⟨-, h2⟩ | ⟨h1, h2⟩
        · cases h2
        · exact lt_trans hc.2 (h'.1 x h1)
    · rw [if_neg hc, List.nil_append]
      cases d with
      | true => exact tail _ (.inl (by simp))
      | false =>
        have : lt nm e.1 = false := by simpa using hc
        exact tail _ (.inr this)
theorem putL_get {nm : Nm} {n : Int} : ∀ {v : List Ent} {d : Bool}, Rise v → ∀ m, getV (putL nm n d v) m = if m = nm then (if d then 0 else n) else getV v m
  | [], d, _, m => by
    unfold putL
    cases d
    · simp only [Bool.false_eq_true, if_false, getV]
      by_cases hm : m = nm
      · rw [if_pos hm, if_pos hm.symm]
      · rw [if_neg hm, if_neg (fun h => hm h.symm)]
    · simp [getV]
  | e :: v, d, h, m => by
    have h' := List.pairwise_cons.1 h
    have ih := fun d => putL_get (nm := nm) (n := n) (d := d) h'.2 m
    have tail : ∀ d', getV ((if e.1 = nm then [] else [e]) ++ putL nm n d' v) m = if m = nm then (if d' then 0 else n) else getV (e :: v) m := fun d' => by
      by_cases he : e.1 = nm
      · rw [if_pos he, List.nil_append, ih]
        by_cases hm : m = nm
        · rw [if_pos hm, if_pos hm]
        · rw [if_neg hm, if_neg hm]
          show _ = if e.1 = m then e.2 else getV v m
          rw [if_neg (by rw [he]; exact fun h => hm h.symm)]
      · rw [if_neg he, List.singleton_append]
        show (if e.1 = m then e.2 else getV (putL nm n d' v) m) = _
        rw [ih]
        by_cases hm : m = nm
        · rw [if_pos hm, if_pos hm, if_neg (by rw [hm]; exact he)]
        · rw [if_neg hm, if_neg hm]
          rfl
    unfold putL
    by_cases hc : (!d && lt nm e.1) = true
    · rw [if_pos hc]
      simp only [Bool.and_eq_true, Bool.not_eq_true'] at hc
      rw [hc.2, Bool.or_true, hc.1]
      show (if nm = m then n else getV ((if e.1 = nm then [] else [e]) ++ putL nm n true v) m) = _
      rw [tail]
      by_cases hm : m = nm
      · subst hm; simp
      · have hm' : ¬ nm = m := fun h => hm h.symm
        rw [if_neg hm', if_neg hm, if_neg hm]
    · rw [if_neg hc, List.nil_append, tail]
      cases d with
      | true => rfl
      | false =>
        have : lt nm e.1 = false := by simpa using hc
        rw [this]
        rfl
theorem put_get {v : List Ent} {nm : Nm} {n : Int} (h : Rise v) (m : Nm) : getV (putV v nm n) m = if m = nm then n else getV v m := by
  unfold putV
  rw [putL_get h]
  by_cases hn : n = 0
  · subst hn; simp
  · simp [hn]
theorem put_mem {v : List Ent} {nm : Nm} {n : Int} {e : Ent} (h : e ∈ putV v nm n) : (e = (nm, n) ∧ n ≠ 0) ∨ e ∈ v := by
  rcases putL_mem h with ⟨h1, h2⟩ | ⟨h1, -⟩
  · exact .inl ⟨h1, by simpa using h2⟩
  · exact .inr h1
theorem put_rise {v : List Ent} {nm : Nm} {n : Int} (h : Rise v) : Rise (putV v nm n) := putL_rise h
theorem put_len {nm : Nm} {n : Int} : ∀ (v : List Ent) (d : Bool), (putL nm n d v).length ≤ v.length + 1 ∧ (d = true → (putL nm n d v).length ≤ v.length)
  | [], d => by unfold putL; cases d <;> simp
  | e :: v, d => by
    have ih := put_len (nm := nm) (n := n) v (d || lt nm e.1)
    unfold putL
    by_cases he : e.1 = nm
    · have hl : lt nm e.1 = false := by rw [he]; exact lt_irrefl nm
      rw [hl] at ih ⊢
      cases d <;> simp [he] at ih ⊢ <;> omega
    · cases d <;> cases hl : lt nm e.1 <;> simp [he, hl] at ih ⊢ <;> omega
def opI (less : Bool) (x y : Int) : Int := if less then x - y else x + y
def inR (Z : Int) : Bool := decide (-170141183460469231731687303715884105728 ≤ Z) && decide (Z < 170141183460469231731687303715884105728)
def bothL (less : Bool) (a : List Ent) : List Ent → List Ent → Option (List Ent)
  | out, [] => some out
  | out, e :: b => if inR (opI less (getV a e.1) e.2) = true then bothL less a (putV out e.1 (opI less (getV a e.1) e.2)) b else none
theorem both_rise {less : Bool} {a : List Ent} : ∀ {b out o : List Ent}, Rise out → bothL less a out b = some o → Rise o
  | [], out, o, h, ho => by simp only [bothL, Option.some.injEq] at ho; rw [← ho]; exact h
  | e :: b, out, o, h, ho => by
    unfold bothL at ho
    split at ho
    · exact both_rise (put_rise h) ho
    · cases ho
theorem both_mem {less : Bool} {a : List Ent} {p : Ent → Prop} : ∀ {b out o : List Ent}, (∀ e ∈ out, p e) → (∀ e ∈ b, ∀ n, n ≠ 0 → inR n = true → p (e.1, n)) → bothL less a out b = some o → ∀ e ∈ o, p e
  | [], out, o, h, _, ho => by simp only [bothL, Option.some.injEq] at ho; rw [← ho]; exact h
  | e :: b, out, o, h, hb, ho => by
    unfold bothL at ho
    split at ho
    · rename_i hr
      refine both_mem (fun x hx => ?_) (fun x hx => hb x (List.mem_cons_of_mem _ hx)) ho
      rcases put_mem hx with ⟨rfl, h2⟩ | hx
      · exact hb e List.mem_cons_self _ h2 hr
      · exact h x hx
    · cases ho
theorem both_get {less : Bool} {a : List Ent} : ∀ {b out o : List Ent}, Rise out → Rise b → bothL less a out b = some o → ∀ m, getV o m = if (∃ e ∈ b, e.1 = m) then opI less (getV a m) (getV b m) else getV out m
  | [], out, o, _, _, ho, m => by simp only [bothL, Option.some.injEq] at ho; rw [← ho]; simp
  | e :: b, out, o, hr, hb, ho, m => by
    have hb' := List.pairwise_cons.1 hb
    unfold bothL at ho
    split at ho
    · have ih := both_get (put_rise hr) hb'.2 ho m
      rw [ih]
      by_cases hm : e.1 = m
      · subst hm
        rw [if_neg (by rintro ⟨x, hx, h2⟩; exact lt_ne (hb'.1 x hx) h2.symm), put_get hr, if_pos rfl, if_pos ⟨e, List.mem_cons_self, rfl⟩]
        rw [get_mem hb List.mem_cons_self]
      · have hg : getV (e :: b) m = getV b m := by
          show (if e.1 = m then e.2 else getV b m) = _
          rw [if_neg hm]
        have hm' : ¬ m = e.1 := fun h => hm h.symm
        have hiff : (∃ x ∈ e :: b, x.1 = m) ↔ ∃ x ∈ b, x.1 = m := by
          constructor
          · rintro ⟨x, h1, h2⟩
            rcases List.mem_cons.1 h1 with rfl | h1
            · exact absurd h2 hm
            · exact ⟨x, h1, h2⟩
          · rintro ⟨x, h1, h2⟩
            exact ⟨x, List.mem_cons_of_mem _ h1, h2⟩
        rw [hg, put_get hr, if_neg hm']
        simp only [hiff]
    · cases ho
theorem both_some {less : Bool} {a : List Ent} : ∀ {b : List Ent} (out : List Ent), (∀ e ∈ b, inR (opI less (getV a e.1) e.2) = true) → ∃ o, bothL less a out b = some o
  | [], out, _ => ⟨out, rfl⟩
  | e :: b, out, h => by
    unfold bothL
    rw [if_pos (h e List.mem_cons_self)]
    exact both_some _ fun x hx => h x (List.mem_cons_of_mem _ hx)
theorem both_in {less : Bool} {a : List Ent} : ∀ {b out o : List Ent}, bothL less a out b = some o → ∀ e ∈ b, inR (opI less (getV a e.1) e.2) = true
  | e :: b, out, o, ho, x, hx => by
    unfold bothL at ho
    split at ho
    · rename_i hr
      rcases List.mem_cons.1 hx with rfl | hx
      · exact hr
      · exact both_in ho x hx
    · cases ho
theorem both_all {less : Bool} {a b o : List Ent} (ha : Rise a) (hb : Rise b) (ho : bothL less a a b = some o) (m : Nm) : getV o m = opI less (getV a m) (getV b m) := by
  rw [both_get ha hb ho m]
  by_cases hx : ∃ e ∈ b, e.1 = m
  · rw [if_pos hx]
  · rw [if_neg hx]
    have : getV b m = 0 := get_none fun e he h => hx ⟨e, he, h⟩
    rw [this]
    unfold opI
    split <;> omega
theorem leq_lt (a b : Nm) : (Op.bytesLess b a || b == a) = !(lt a b) := by
  cases h : lt a b
  · cases h2 : Op.bytesLess b a
    · rw [lt_total (a := a) (b := b) h h2]; simp
    · rfl
  · have h2 := lt_asymm h
    have h3 := lt_ne h
    rw [show Op.bytesLess b a = false from h2, Bool.false_or]
    exact beq_eq_false_iff_ne.2 h3.symm
end Vec
end Go.Proofs.YtkjjlppfomidbaaGreat
/- Vref: Contracts of the document's answer for layer 4: Right, Get, Same, Fits, Within; conditions: names of at most 100,000 bytes, numbers of 128 bits. -/
namespace Go.Proofs.YtkjjlppfomidbaaGreat
namespace Vec
open Go Go.RowKit Sx Wid Lab
attribute [local irreducible] Go.Calls
abbrev WV (n : Int) : Value := W2 (sHi n) (sLo n)
def cellsE (e : Ent) : List Value := [S e.1, I (sHi e.2), .int .u64 (sLo e.2)]
theorem cellsE_len (e : Ent) : (cellsE e).length = 3 := rfl
abbrev vcells (v : List Ent) : List Value := v.flatMap cellsE
def VecAt (w : World) (v : Value) (es : List Ent) : Prop := OldRow w 3 v es.length (vcells es)
theorem VecAt.below {w w' : World} {v : Value} {es : List Ent} (h : VecAt w v es) (hb : Below w.heap.size w w') : VecAt w' v es := OldRow.below h hb
def wfV (es : List Ent) : Prop := es.length ≤ 100000 ∧ ∀ e ∈ es, e.1.length ≤ 100000 ∧ inW e.2
theorem wfV.at {es : List Ent} (h : wfV es) {i : Nat} {e : Ent} (hi : es[i]? = some e) : e.1.length ≤ 100000 ∧ inW e.2 := h.2 e (List.mem_of_getElem? hi)
theorem ent_cells {w : World} {g b : Nat} {e : Ent} (hc : ∀ (r : Nat) u, (cellsE e)[r]? = some u → w.cell? ⟨g, b + r, none⟩ = some u) :
    w.cell? ⟨g, b + 0, none⟩ = some (S e.1) ∧ w.cell? ⟨g, b + 1 + 0, none⟩ = some (I (sHi e.2)) ∧ w.cell? ⟨g, b + 1 + 1, none⟩ = some (.int .u64 (sLo e.2)) ∧
    (∀ (j : Nat) u, [I (sHi e.2), .int .u64 (sLo e.2)][j]? = some u → w.cell? ⟨g, b + 1 + j, none⟩ = some u) ∧ ∀ (j : Nat) u, [S e.1, I (sHi e.2), .int .u64 (sLo e.2)][j]? = some u → w.cell? ⟨g, b + j, none⟩ = some u := by
  refine ⟨hc 0 _ rfl, hc 1 _ rfl, hc 2 _ rfl, fun j u hj => ?_, hc⟩
  have := hc (1 + j) u (by rw [Nat.add_comm]; exact hj)
  rwa [← Nat.add_assoc] at this
theorem s_zero {n : Int} (h : inW n) : (sHi n = 0 ∧ sLo n = 0) ↔ n = 0 := by
  have h1 := sN_in h
  unfold sHi sLo
  rw [h1]
  constructor
  · omega
  · rintro rfl; decide
def okE (e : Ent) : Bool := rightB e.1 && e.2 != 0
def okAt (es : List Ent) (i : Nat) : Bool :=
  match es[i]? with
  | none => true
  | some e => okE e && (match i with
    | 0 => true
    | j + 1 => match es[j]? with
      | none => true
      | some p => lt p.1 e.1)
def rightV (es : List Ent) : Bool := (List.range es.length).all (okAt es)
theorem right_f {es : List Ent} {i : Nat} (hi : i < es.length) (h : okAt es i = false) : rightV es = false := by
  unfold rightV
  rw [List.all_eq_false]
  exact ⟨i, List.mem_range.2 hi, by rw [h]; decide⟩
theorem right_t {es : List Ent} (h : ∀ j, j < es.length → okAt es j = true) : rightV es = true := by
  unfold rightV
  rw [List.all_eq_true]
  exact fun j hj => h j (List.mem_range.1 hj)
set_option maxHeartbeats 4000000 in
theorem vright_ok (v : Value) (es : List Ent) (hwf : wfV es) (w : World) (hv : VecAt w v es) : Calls Tryz.prog 77 #[v] w fun e w' => e = .returned (.bool (rightV es)) ∧ Below w.heap.size w w' := by
  have hln := hwf.1
  obtain ⟨a, c, rfl, hat⟩ := OldRow.cells cellsE_len hv
  refine calls1 (args := [.slice a es.length c]) Tryz.func77 rfl rfl rfl rfl ?_
  repeat' (first | refine aw_seq ?_ | refine zz ?_ | refine zon fun _ => ?_ | refine zoa fun vr lr hr => ?_ | refine zoS (fun _ => ?_) (fun _ => ?_) | refine zqS (fun _ => ?_) (fun _ => ?_) | refine zwS (fun _ => ?_) (fun _ => ?_))
  refine aw_for (t0 := [(0, .slice a es.length c), (3, I (0 : Nat))]) (fun q t H => ∃ i : Nat, q = es.length - i ∧ i ≤ es.length ∧ (∀ j, j < i → okAt es j = true) ∧ t = [(0, .slice a es.length c), (3, I i)] ∧ H = []) ⟨0, rfl, by omega, fun j hj => by omega, rfl, rfl⟩ (by repeat (first | exact sub_nil | refine sub_cons rfl ?_)) ?_
  rintro q t H ⟨i, rfl, hi, hall, rfl, rfl⟩
  by_cases hlt : i < es.length
  · obtain ⟨e, he⟩ := getI hlt
    obtain ⟨g, o, rfl, hg, hc⟩ := hat i e (i : Int) he rfl
    obtain ⟨c0, c1, c2, -, -⟩ := ent_cells hc
    have hwe := hwf.at he
    have hz := s_zero hwe.2
    cases hr : rightB e.1
    · rw [right_f hlt (by unfold okAt; rw [he]; simp [okE, hr])]
      have hrr : ∀ w, Calls Tryz.prog 68 #[S e.1] w fun e w' => e = .returned (.bool false) ∧ Below w.heap.size w w' := fun w => hr ▸ rright_ok e.1 (by omega) w
      repeat' (first | refine aw_seq ?_ | refine zz ?_ | refine zon fun _ => ?_ | refine zoa fun vr lr hr => ?_ | ((first | apply ao_call | apply aq_call); exact wants_a; (first | exact oc_func rfl | exact oc_clos rfl rfl | exact oc_bnd rfl rfl); (exact rfl); (first | exact fun w hw => hrr w)) | refine zoS (fun _ => ?_) (fun _ => ?_) | refine zqS (fun _ => ?_) (fun _ => ?_) | refine zwS (fun _ => ?_) (fun _ => ?_))
      exact fun w' hw => ⟨rfl, hw.below⟩
    have hrr : ∀ w, Calls Tryz.prog 68 #[S e.1] w fun e w' => e = .returned (.bool true) ∧ Below w.heap.size w w' := fun w => hr ▸ rright_ok e.1 (by omega) w
    by_cases hn : e.2 = 0
    · rw [right_f hlt (by unfold okAt; rw [he]; simp [okE, hn])]
      have h1 := (hz.2 hn).1
      have h2 := (hz.2 hn).2
      repeat' (first | refine aw_seq ?_ | refine zz ?_ | refine zon fun _ => ?_ | refine zoa fun vr lr hr => ?_ | ((first | apply ao_call | apply aq_call); exact wants_a; (first | exact oc_func rfl | exact oc_clos rfl rfl | exact oc_bnd rfl rfl); (exact rfl); (first | exact fun w hw => hrr w)) | refine zoS (fun _ => ?_) (fun _ => ?_) | refine zqS (fun _ => ?_) (fun _ => ?_) | refine zwS (fun _ => ?_) (fun _ => ?_))
      exact fun w' hw => ⟨rfl, hw.below⟩
    repeat' (first | refine aw_cutI_at (id := 7) (fun t H => t = [(0, .slice (some ⟨g, o, none⟩) es.length c), (3, I i)] ∧ H = []) ?_ ?_ | refine aw_cutI_at2 (id := 7) (fun t H => t = [(0, .slice (some ⟨g, o, none⟩) es.length c), (3, I i)] ∧ H = []) ?_ ?_ | refine aw_seq ?_ | refine zz ?_ | refine zon fun _ => ?_ | refine zoa fun vr lr hr => ?_ | ((first | apply ao_call | apply aq_call); exact wants_a; (first | exact oc_func rfl | exact oc_clos rfl rfl | exact oc_bnd rfl rfl); (exact rfl); (first | exact fun w hw => hrr w)) | refine zoS (fun _ => ?_) (fun _ => ?_) | refine zqS (fun _ => ?_) (fun _ => ?_) | refine zwS (fun _ => ?_) (fun _ => ?_))
    all_goals first | exact ci_normal ⟨rfl, rfl⟩ (by repeat (first | exact sub_nil | refine sub_cons rfl ?_)) hsub_a | (exfalso; apply hn; apply hz.1; simp_all; done) | skip
    rintro t H ⟨rfl, rfl⟩
    have hok : okE e = true := by simp [okE, hr, hn]
    by_cases hi0 : i = 0
    · subst hi0
      repeat' (first | refine aw_seq ?_ | refine zz ?_ | refine zon fun _ => ?_ | refine zoa fun vr lr hr => ?_ | refine zoS (fun _ => ?_) (fun _ => ?_) | refine zqS (fun _ => ?_) (fun _ => ?_) | refine zwS (fun _ => ?_) (fun _ => ?_))
      exact lq_normal ⟨1, rfl, by omega, fun j hj => (by obtain rfl : j = 0 := (by omega); unfold okAt; rw [he]; simp [hok]), rfl, rfl⟩ (by omega) (by repeat (first | exact sub_nil | refine sub_cons rfl ?_))
    · obtain ⟨k, rfl⟩ : ∃ k, i = k + 1 := ⟨i - 1, by omega⟩
      obtain ⟨p, hp⟩ := getI (show k < es.length by omega)
      obtain ⟨g', o', hgo, hg', hc'⟩ := hat k p (((k + 1 : Nat) : Int) - 1) hp (by omega)
      cases hgo
      obtain ⟨d0, -, -, -, -⟩ := ent_cells hc'
      have hwp := hwf.at hp
      have hoa : okAt es (k + 1) = lt p.1 e.1 := by
        unfold okAt; rw [he]; simp only [hp, hok, Bool.true_and]
      cases hlt2 : lt p.1 e.1
      · rw [right_f hlt (by rw [hoa, hlt2])]
        have hbb : ∀ w, Calls Tryz.prog 69 #[S p.1, S e.1] w fun e w' => e = .returned (.bool false) ∧ Below w.heap.size w w' := fun w => hlt2 ▸ before_ok p.1 e.1 (by omega) (by omega) w
        repeat' (first | refine aw_seq ?_ | refine zz ?_ | refine zon fun _ => ?_ | refine zoa fun vr lr hr => ?_ | ((first | apply ao_call | apply aq_call); exact wants_a; (first | exact oc_func rfl | exact oc_clos rfl rfl | exact oc_bnd rfl rfl); (exact rfl); (first | exact fun w hw => hbb w)) | refine zoS (fun _ => ?_) (fun _ => ?_) | refine zqS (fun _ => ?_) (fun _ => ?_) | refine zwS (fun _ => ?_) (fun _ => ?_))
        exact fun w' hw => ⟨rfl, hw.below⟩
      · have hbb : ∀ w, Calls Tryz.prog 69 #[S p.1, S e.1] w fun e w' => e = .returned (.bool true) ∧ Below w.heap.size w w' := fun w => hlt2 ▸ before_ok p.1 e.1 (by omega) (by omega) w
        repeat' (first | refine aw_seq ?_ | refine zz ?_ | refine zon fun _ => ?_ | refine zoa fun vr lr hr => ?_ | ((first | apply ao_call | apply aq_call); exact wants_a; (first | exact oc_func rfl | exact oc_clos rfl rfl | exact oc_bnd rfl rfl); (exact rfl); (first | exact fun w hw => hbb w)) | refine zoS (fun _ => ?_) (fun _ => ?_) | refine zqS (fun _ => ?_) (fun _ => ?_) | refine zwS (fun _ => ?_) (fun _ => ?_))
        exact lq_normal ⟨k + 1 + 1, rfl, by omega, fun j hj => by
          by_cases e1 : j = k + 1
          · subst e1; rw [hoa, hlt2]
          · exact hall j (by omega), rfl, rfl⟩ (by omega) (by repeat (first | exact sub_nil | refine sub_cons rfl ?_))
  · obtain rfl : i = es.length := by omega
    rw [right_t hall]
    repeat' (first | refine aw_seq ?_ | refine zz ?_ | refine zon fun _ => ?_ | refine zoa fun vr lr hr => ?_ | refine zoS (fun _ => ?_) (fun _ => ?_) | refine zqS (fun _ => ?_) (fun _ => ?_) | refine zwS (fun _ => ?_) (fun _ => ?_))
    exact fun w' hw => ⟨rfl, hw.below⟩
set_option maxHeartbeats 4000000 in
theorem vget_ok (v : Value) (es : List Ent) (m : Nm) (hwf : wfV es) (w : World) (hv : VecAt w v es) : Calls Tryz.prog 80 #[v, S m] w fun e w' => e = .returned (WV (getV es m)) ∧ Below w.heap.size w w' := by
  have hln := hwf.1
  obtain ⟨a, c, rfl, hat⟩ := OldRow.cells cellsE_len hv
  refine callsC1 (rt := 94) (args := [.slice a es.length c, S m]) Tryz.func80 rfl rfl rfl rfl ?_
  repeat' (first | refine aw_seq ?_ | refine zz ?_ | refine zon fun _ => ?_ | refine zoa fun vr lr hr => ?_ | refine zoS (fun _ => ?_) (fun _ => ?_) | refine zqS (fun _ => ?_) (fun _ => ?_) | refine zwS (fun _ => ?_) (fun _ => ?_))
  refine aw_for (t0 := [(0, .slice a es.length c), (1, S m), (4, .pointer (some ⟨_, 0, none⟩)), (5, I (0 : Nat))]) (fun q t H => ∃ (g i : Nat), q = es.length - i ∧ i ≤ es.length ∧ getV es m = getV (es.drop i) m ∧ t = [(0, .slice a es.length c), (1, S m), (4, .pointer (some ⟨g, 0, none⟩)), (5, I i)] ∧ H = [(g, .cells #[I 0, .int .u64 0] 94)]) ⟨_, 0, rfl, by omega, rfl, rfl, rfl⟩ (by repeat (first | exact sub_nil | refine sub_cons rfl ?_)) ?_
  rintro q t H ⟨g0, i, rfl, hi, hget, rfl, rfl⟩
  by_cases hlt : i < es.length
  · obtain ⟨e, he⟩ := getI hlt
    obtain ⟨g, o, rfl, hg, hc⟩ := hat i e (i : Int) he rfl
    obtain ⟨c0, c1, c2, cW, -⟩ := ent_cells hc
    have hd : es.drop i = e :: es.drop (i + 1) := by
      have := List.drop_eq_getElem_cons hlt
      rw [this, (List.getElem?_eq_some_iff.1 he).2]
    rw [hd] at hget
    by_cases hm : e.1 = m
    · have hmm : (e.1 == m) = true := beq_iff_eq.2 hm
      have hv : getV es m = e.2 := by rw [hget]; show (if e.1 = m then e.2 else _) = _; rw [if_pos hm]
      rw [hv]
      repeat' (first | refine aw_seq ?_ | ((first | apply ao_val | apply aq_val); exact wants_a; (first | exact ov_load_oa rfl hg cW rfl | exact ov_a); (exact rfl)) | refine zy ?_ | refine zon fun _ => ?_ | refine zoa fun vr lr hr => ?_ | refine zoS (fun _ => ?_) (fun _ => ?_) | refine zqS (fun _ => ?_) (fun _ => ?_) | refine zwS (fun _ => ?_) (fun _ => ?_))
      exact fun w' hw => ⟨rfl, hw.below⟩
    · have hmm : (e.1 == m) = false := beq_eq_false_iff_ne.2 hm
      have hv : getV es m = getV (es.drop (i + 1)) m := by rw [hget]; show (if e.1 = m then e.2 else _) = _; rw [if_neg hm]
      repeat' (first | refine aw_seq ?_ | refine zz ?_ | refine zon fun _ => ?_ | refine zoa fun vr lr hr => ?_ | refine zoS (fun _ => ?_) (fun _ => ?_) | refine zqS (fun _ => ?_) (fun _ => ?_) | refine zwS (fun _ => ?_) (fun _ => ?_))
      exact lq_normal ⟨g0, i + 1, rfl, by omega, hv, rfl, rfl⟩ (by omega) (by repeat (first | exact sub_nil | refine sub_cons rfl ?_))
  · have hnil : es.drop i = [] := List.drop_eq_nil_of_le (by omega)
    rw [hnil] at hget
    rw [hget]
    have hz : WV (getV [] m) = W2 0 0 := by kernel_rfl
    rw [hz]
    repeat' (first | refine aw_seq ?_ | refine zz ?_ | refine zon fun _ => ?_ | refine zoa fun vr lr hr => ?_ | refine zoS (fun _ => ?_) (fun _ => ?_) | refine zqS (fun _ => ?_) (fun _ => ?_) | refine zwS (fun _ => ?_) (fun _ => ?_))
    exact fun w' hw => ⟨rfl, hw.below⟩
theorem cell_same {e f : Ent} (he : inW e.2) (hf : inW f.2) (h : cellsE e = cellsE f) : e = f := by
  simp only [cellsE, List.cons.injEq, Value.string.injEq, Value.int.injEq, true_and, and_true] at h
  have h1 := sN_in he
  have h2 := sN_in hf
  have h3 : sN e.2 = sN f.2 := by
    have := h.2.1; have := h.2.2
    unfold sHi sLo at *
    omega
  refine Prod.ext ?_ (by rw [← h1, ← h2, h3])
  simpa [S] using h.1
theorem eqAll_ne {e f : Ent} (he : inW e.2) (hf : inW f.2) (h : e ≠ f) : (!(eqAll [S e.1, I (sHi e.2), .int .u64 (sLo e.2)] [S f.1, I (sHi f.2), .int .u64 (sLo f.2)])) = true := by
  by_cases hq : eqAll [S e.1, I (sHi e.2), .int .u64 (sLo e.2)] [S f.1, I (sHi f.2), .int .u64 (sLo f.2)] = true
  · exfalso
    apply h
    apply cell_same he hf
    simp only [eqAll, eqB, Bool.and_eq_true, beq_iff_eq] at hq
    obtain ⟨h1, h2, h3⟩ := hq
    have h1' : e.1 = f.1 := by simpa using h1
    unfold cellsE
    rw [h1', h2, h3]
  · simpa using hq
set_option maxHeartbeats 4000000 in
theorem vsame_ok (v u : Value) (es fs : List Ent) (hw1 : wfV es) (hw2 : wfV fs) (w : World) (hv : VecAt w v es) (hu : VecAt w u fs) : Calls Tryz.prog 12 #[v, u] w fun e w' => e = .returned (.bool (es == fs)) ∧ Below w.heap.size w w' := by
  have hln := hw1.1
  have hln2 := hw2.1
  obtain ⟨a, c, rfl, hat⟩ := OldRow.cells cellsE_len hv
  obtain ⟨a2, c2, rfl, hat2⟩ := OldRow.cells cellsE_len hu
  refine calls1 (args := [.slice a es.length c, .slice a2 fs.length c2]) Tryz.func12 rfl rfl rfl rfl ?_
  by_cases hlen : es.length = fs.length
  · rw [← hlen]
    have hle : ((es.length : Int) != (es.length : Int)) = false := bne_self_eq_false _
    repeat' (first | refine aw_seq ?_ | refine zz ?_ | refine zon fun _ => ?_ | refine zoa fun vr lr hr => ?_ | refine zoS (fun _ => ?_) (fun _ => ?_) | refine zqS (fun _ => ?_) (fun _ => ?_) | refine zwS (fun _ => ?_) (fun _ => ?_))
    refine aw_for (t0 := [(0, .slice a es.length c), (1, .slice a2 es.length c2), (5, I (0 : Nat))]) (fun q t H => ∃ (i : Nat), q = es.length - i ∧ i ≤ es.length ∧ es.take i = fs.take i ∧ t = [(0, .slice a es.length c), (1, .slice a2 es.length c2), (5, I i)] ∧ H = []) ⟨0, rfl, by omega, rfl, rfl, rfl⟩ (by repeat (first | exact sub_nil | refine sub_cons rfl ?_)) ?_
    rintro q t H ⟨i, rfl, hi, htake, rfl, rfl⟩
    by_cases hlt : i < es.length
    · obtain ⟨e, he⟩ := getI hlt
      obtain ⟨f, hf⟩ := getI (show i < fs.length by omega)
      obtain ⟨g, o, rfl, hg, hc⟩ := hat i e (i : Int) he rfl
      obtain ⟨g2, o2, rfl, hg2, hc2⟩ := hat2 i f (i : Int) hf rfl
      obtain ⟨-, -, -, -, cA⟩ := ent_cells hc
      obtain ⟨-, -, -, -, cB⟩ := ent_cells hc2
      by_cases hef : e = f
      · subst hef
        repeat' (first | refine aw_seq ?_ | ((first | apply ao_val | apply aq_val); exact wants_a; (first | exact ov_load_oa rfl hg cA rfl | exact ov_load_oa rfl hg2 cB rfl | exact ov_a); (exact rfl)) | refine zy ?_ | refine zon fun _ => ?_ | refine zoa fun vr lr hr => ?_ | refine zoS (fun _ => ?_) (fun _ => ?_) | refine zqS (fun _ => ?_) (fun _ => ?_) | refine zwS (fun _ => ?_) (fun _ => ?_))
        exact lq_normal ⟨i + 1, rfl, by omega, by rw [List.take_add_one, List.take_add_one, htake, he, hf], rfl, rfl⟩ (by omega) (by repeat (first | exact sub_nil | refine sub_cons rfl ?_))
      · have hne : es ≠ fs := fun h => by rw [h, hf] at he; cases he; exact hef rfl
        rw [show (es == fs) = false from beq_eq_false_iff_ne.2 hne]
        have hb := eqAll_ne (hw1.at he).2 (hw2.at hf).2 hef
        repeat' (first | refine aw_seq ?_ | ((first | apply ao_val | apply aq_val); exact wants_a; (first | exact ov_load_oa rfl hg cA rfl | exact ov_load_oa rfl hg2 cB rfl | exact ov_a); (exact rfl)) | refine zy ?_ | refine zon fun _ => ?_ | refine zoa fun vr lr hr => ?_ | refine zoS (fun _ => ?_) (fun _ => ?_) | refine zqS (fun _ => ?_) (fun _ => ?_) | refine zwS (fun _ => ?_) (fun _ => ?_))
        exact fun w' hw => ⟨rfl, hw.below⟩
    · obtain rfl : i = es.length := by omega
      have : es = fs := by rw [List.take_length, hlen, List.take_length] at htake; exact htake
      rw [show (es == fs) = true from beq_iff_eq.2 this]
      repeat' (first | refine aw_seq ?_ | refine zz ?_ | refine zon fun _ => ?_ | refine zoa fun vr lr hr => ?_ | refine zoS (fun _ => ?_) (fun _ => ?_) | refine zqS (fun _ => ?_) (fun _ => ?_) | refine zwS (fun _ => ?_) (fun _ => ?_))
      exact fun w' hw => ⟨rfl, hw.below⟩
  · have hle : ((es.length : Int) != (fs.length : Int)) = true := bne_iff_ne.2 (by omega)
    rw [show (es == fs) = false from beq_eq_false_iff_ne.2 fun h => hlen (by rw [h])]
    repeat' (first | refine aw_seq ?_ | refine zz ?_ | refine zon fun _ => ?_ | refine zoa fun vr lr hr => ?_ | refine zoS (fun _ => ?_) (fun _ => ?_) | refine zqS (fun _ => ?_) (fun _ => ?_) | refine zwS (fun _ => ?_) (fun _ => ?_))
    exact fun w' hw => ⟨rfl, hw.below⟩
end Vec
end Go.Proofs.YtkjjlppfomidbaaGreat
/- Vput: Contract of the document's put for layer 4; conditions: names of at most 100,000 bytes, numbers of 128 bits. -/
namespace Go.Proofs.YtkjjlppfomidbaaGreat
namespace Vec
open Go Go.RowKit Sx Wid Lab
attribute [local irreducible] Go.Calls
theorem row_add {e : TypeId} {v : Value} {l : Hp} {n : Nat} {xs : List Value} {outs : List Ent} {x : Ent} (h : RowB e 3 v l (n + 1) (xs ++ [S x.1, I (sHi x.2), .int .u64 (sLo x.2)])) (hn : n = outs.length) (hx : xs = vcells outs) :
    RowB e 3 v l (outs ++ [x]).length (vcells (outs ++ [x])) := by
  subst hn hx
  have e1 : (outs ++ [x]).length = outs.length + 1 := by simp
  have e2 : vcells (outs ++ [x]) = vcells outs ++ [S x.1, I (sHi x.2), .int .u64 (sLo x.2)] := by simp [vcells, List.flatMap_append, cellsE]
  rw [e1, e2]
  exact h
set_option maxHeartbeats 8000000 in
theorem vput_ok (v : Value) (es : List Ent) (nm : Nm) (n : Int) (hwf : wfV es) (hnm : nm.length ≤ 100000) (hn : inW n) (w : World) (hv : VecAt w v es) :
    Calls Tryz.prog 83 #[v, S nm, WV n] w fun e w' => ∃ u, e = .returned u ∧ NewRow 96 3 w w' u (putV es nm n).length (vcells (putV es nm n)) := by
  have hln := hwf.1
  have hpl := (put_len (nm := nm) (n := n) es (n == 0)).1
  have hpl' : (putV es nm n).length ≤ es.length + 1 := hpl
  obtain ⟨a, c, rfl, hat⟩ := OldRow.cells cellsE_len hv
  refine calls1 (args := [.slice a es.length c, S nm, WV n]) Tryz.func83 rfl rfl rfl rfl ?_
  have hz := s_zero hn
  have hz2 : n = 0 ↔ (n == 0) = true := by simp
  repeat' (first | refine aw_cutI_at (id := 3) (fun t H => ∃ b, t = [(0, .slice a es.length c), (1, S nm), (5, .pointer (some ⟨b, 0, none⟩)), (7, .slice none 0 0), (8, .bool (n == 0))] ∧ H = [(b, .cells #[I (sHi n), .int .u64 (sLo n)] 94)]) ?_ ?_ | refine aw_cutI_at2 (id := 3) (fun t H => ∃ b, t = [(0, .slice a es.length c), (1, S nm), (5, .pointer (some ⟨b, 0, none⟩)), (7, .slice none 0 0), (8, .bool (n == 0))] ∧ H = [(b, .cells #[I (sHi n), .int .u64 (sLo n)] 94)]) ?_ ?_ | refine aw_seq ?_ | refine zz ?_ | refine zon fun _ => ?_ | refine zoa fun vr lr hr => ?_ | refine zoS (fun _ => ?_) (fun _ => ?_) | refine zqS (fun _ => ?_) (fun _ => ?_) | refine zwS (fun _ => ?_) (fun _ => ?_))
  · rename_i hh
    have hq : (n == 0) = (sLo n == 0) := by
      have h1 : sHi n = 0 := by simpa using hh
      by_cases h2 : sLo n = 0
      · rw [beq_iff_eq.2 (hz.1 ⟨h1, h2⟩), beq_iff_eq.2 h2]
      · rw [beq_eq_false_iff_ne.2 h2, beq_eq_false_iff_ne.2 fun h => h2 (hz.2 h).2]
    exact ci_normal ⟨_, rfl, rfl⟩ (sub_cons rfl (sub_cons rfl (sub_cons rfl (sub_cons rfl (sub_cons' rfl (congrArg Value.bool hq) sub_nil))))) (List.Sublist.refl _)
  · rename_i hh
    have hq : (n == 0) = false := by
      have h1 : sHi n ≠ 0 := by simpa using hh
      exact beq_eq_false_iff_ne.2 fun h => h1 (hz.2 h).1
    exact ci_normal ⟨_, rfl, rfl⟩ (sub_cons rfl (sub_cons rfl (sub_cons rfl (sub_cons rfl (sub_cons' rfl (congrArg Value.bool hq) sub_nil))))) (List.Sublist.refl _)
  rintro t H ⟨b0, rfl, rfl⟩
  repeat' (first | refine aw_seq ?_ | refine zz ?_ | refine zon fun _ => ?_ | refine zoa fun vr lr hr => ?_ | refine zoS (fun _ => ?_) (fun _ => ?_) | refine zqS (fun _ => ?_) (fun _ => ?_) | refine zwS (fun _ => ?_) (fun _ => ?_))
  refine aw_for (t0 := [(0, .slice a es.length c), (1, S nm), (5, .pointer (some ⟨b0, 0, none⟩)), (7, .slice none 0 0), (8, .bool (n == 0)), (9, I (0 : Nat))]) (fun q t H => ∃ (i : Nat) (d : Bool) (u : Value) (l : Hp) (outs : List Ent), q = es.length - i ∧ i ≤ es.length ∧ RowB 96 3 u l outs.length (vcells outs) ∧ outs ++ putL nm n d (es.drop i) = putV es nm n ∧ t = [(0, .slice a es.length c), (1, S nm), (5, .pointer (some ⟨b0, 0, none⟩)), (7, u), (8, .bool d), (9, I i)] ∧ H = l ++ [(b0, .cells #[I (sHi n), .int .u64 (sLo n)] 94)]) ⟨0, (n == 0), _, _, [], rfl, by omega, RowB.nil, rfl, rfl, rfl⟩ (by repeat (first | exact sub_nil | refine sub_cons rfl ?_)) ?_
  rintro q t H ⟨i, d, u, l, outs, rfl, hi, hr, hput, rfl, rfl⟩
  have hol : outs.length ≤ 100001 := by
    have := congrArg List.length hput
    rw [List.length_append] at this
    omega
  by_cases hlt : i < es.length
  · obtain ⟨e, he⟩ := getI hlt
    obtain ⟨g, o, rfl, hg, hc⟩ := hat i e (i : Int) he rfl
    obtain ⟨c0, -, -, -, cA⟩ := ent_cells hc
    have hwe := hwf.at he
    have hd : es.drop i = e :: es.drop (i + 1) := by
      have := List.drop_eq_getElem_cons hlt
      rw [this, (List.getElem?_eq_some_iff.1 he).2]
    have hstep : putL nm n d (e :: es.drop (i + 1)) = (if (!d && lt nm e.1) = true then [(nm, n)] else []) ++ ((if e.1 = nm then [] else [e]) ++ putL nm n (d || lt nm e.1) (es.drop (i + 1))) := rfl
    rw [hd, hstep] at hput
    cases hL : lt nm e.1
    · have hbb : ∀ w, Calls Tryz.prog 69 #[S nm, S e.1] w fun e w' => e = .returned (.bool false) ∧ Below w.heap.size w w' := fun w => hL ▸ before_ok nm e.1 (by omega) (by omega) w
      rw [hL, Bool.and_false, if_neg (by decide), Bool.or_false, List.nil_append] at hput
      by_cases hne : e.1 = nm
      · have hnn : (!(e.1 == nm)) = false := by simp [hne]
        rw [if_pos hne, List.nil_append] at hput
        cases d
        · repeat' (first | refine aw_seq ?_ | refine zz ?_ | refine zon fun _ => ?_ | refine zoa fun vr lr hr => ?_ | ((first | apply ao_call | apply aq_call); exact wants_a; (first | exact oc_func rfl | exact oc_clos rfl rfl | exact oc_bnd rfl rfl); (exact rfl); (first | exact fun w hw => hbb w)) | refine zoS (fun _ => ?_) (fun _ => ?_) | refine zqS (fun _ => ?_) (fun _ => ?_) | refine zwS (fun _ => ?_) (fun _ => ?_))
          exact lq_normal' ⟨i + 1, _, _, _, outs, rfl, by omega, hr, hput, rfl, rfl⟩ (by omega) (by repeat (first | exact sub_nil | refine sub_cons rfl ?_)) hsub_a
        · repeat' (first | refine aw_seq ?_ | refine zz ?_ | refine zon fun _ => ?_ | refine zoa fun vr lr hr => ?_ | ((first | apply ao_call | apply aq_call); exact wants_a; (first | exact oc_func rfl | exact oc_clos rfl rfl | exact oc_bnd rfl rfl); (exact rfl); (first | exact fun w hw => hbb w)) | refine zoS (fun _ => ?_) (fun _ => ?_) | refine zqS (fun _ => ?_) (fun _ => ?_) | refine zwS (fun _ => ?_) (fun _ => ?_))
          exact lq_normal' ⟨i + 1, _, _, _, outs, rfl, by omega, hr, hput, rfl, rfl⟩ (by omega) (by repeat (first | exact sub_nil | refine sub_cons rfl ?_)) hsub_a
      · have hnn : (!(e.1 == nm)) = true := by simp [hne]
        rw [if_neg hne, ← List.append_assoc] at hput
        cases d
        · repeat' (first | refine aw_seq ?_ | ((first | apply ao_val | apply aq_val); exact wants_a; (first | exact ov_load_oa rfl hg cA rfl | exact ov_a); (exact rfl)) | refine zy ?_ | refine zon fun _ => ?_ | refine zoa fun vr lr hr => ?_ | ((first | apply ao_call | apply aq_call); exact wants_a; (first | exact oc_func rfl | exact oc_clos rfl rfl | exact oc_bnd rfl rfl); (exact rfl); (first | exact fun w hw => hbb w)) | refine zoS (fun _ => ?_) (fun _ => ?_) | refine zqS (fun _ => ?_) (fun _ => ?_) | refine zwS (fun _ => ?_) (fun _ => ?_))
          exact lq_normal' ⟨i + 1, _, _, _, outs ++ [e], rfl, by omega, row_add hr rfl rfl, hput, rfl, rfl⟩ (by omega) (by repeat (first | exact sub_nil | refine sub_cons rfl ?_)) hsub_a
        · repeat' (first | refine aw_seq ?_ | ((first | apply ao_val | apply aq_val); exact wants_a; (first | exact ov_load_oa rfl hg cA rfl | exact ov_a); (exact rfl)) | refine zy ?_ | refine zon fun _ => ?_ | refine zoa fun vr lr hr => ?_ | ((first | apply ao_call | apply aq_call); exact wants_a; (first | exact oc_func rfl | exact oc_clos rfl rfl | exact oc_bnd rfl rfl); (exact rfl); (first | exact fun w hw => hbb w)) | refine zoS (fun _ => ?_) (fun _ => ?_) | refine zqS (fun _ => ?_) (fun _ => ?_) | refine zwS (fun _ => ?_) (fun _ => ?_))
          exact lq_normal' ⟨i + 1, _, _, _, outs ++ [e], rfl, by omega, row_add hr rfl rfl, hput, rfl, rfl⟩ (by omega) (by repeat (first | exact sub_nil | refine sub_cons rfl ?_)) hsub_a
    · have hbb : ∀ w, Calls Tryz.prog 69 #[S nm, S e.1] w fun e w' => e = .returned (.bool true) ∧ Below w.heap.size w w' := fun w => hL ▸ before_ok nm e.1 (by omega) (by omega) w
      have hne : ¬ e.1 = nm := (lt_ne hL).symm
      have hnn : (!(e.1 == nm)) = true := by simp [hne]
      rw [hL, Bool.and_true, Bool.or_true, if_neg hne] at hput
      cases d
      · rw [if_pos (by decide), ← List.append_assoc, ← List.append_assoc] at hput
        repeat' (first | refine aw_seq ?_ | ((first | apply ao_val | apply aq_val); exact wants_a; (first | exact ov_load_oa rfl hg cA rfl | exact ov_a); (exact rfl)) | refine zy ?_ | refine zon fun _ => ?_ | refine zoa fun vr lr hr => ?_ | ((first | apply ao_call | apply aq_call); exact wants_a; (first | exact oc_func rfl | exact oc_clos rfl rfl | exact oc_bnd rfl rfl); (exact rfl); (first | exact fun w hw => hbb w)) | refine zoS (fun _ => ?_) (fun _ => ?_) | refine zqS (fun _ => ?_) (fun _ => ?_) | refine zwS (fun _ => ?_) (fun _ => ?_))
        rename_i hr1 hr2
        exact lq_normal' ⟨i + 1, _, _, _, outs ++ [(nm, n)] ++ [e], rfl, by omega, row_add hr (by simp) (by simp [vcells, List.flatMap_append, cellsE]), hput, rfl, rfl⟩ (by omega) (by repeat (first | exact sub_nil | refine sub_cons rfl ?_)) hsub_a
      · rw [if_neg (by decide), List.nil_append, ← List.append_assoc] at hput
        repeat' (first | refine aw_seq ?_ | ((first | apply ao_val | apply aq_val); exact wants_a; (first | exact ov_load_oa rfl hg cA rfl | exact ov_a); (exact rfl)) | refine zy ?_ | refine zon fun _ => ?_ | refine zoa fun vr lr hr => ?_ | ((first | apply ao_call | apply aq_call); exact wants_a; (first | exact oc_func rfl | exact oc_clos rfl rfl | exact oc_bnd rfl rfl); (exact rfl); (first | exact fun w hw => hbb w)) | refine zoS (fun _ => ?_) (fun _ => ?_) | refine zqS (fun _ => ?_) (fun _ => ?_) | refine zwS (fun _ => ?_) (fun _ => ?_))
        exact lq_normal' ⟨i + 1, _, _, _, outs ++ [e], rfl, by omega, row_add hr rfl rfl, hput, rfl, rfl⟩ (by omega) (by repeat (first | exact sub_nil | refine sub_cons rfl ?_)) hsub_a
  · have hnil : es.drop i = [] := List.drop_eq_nil_of_le (by omega)
    rw [hnil] at hput
    cases d
    · have hq : putV es nm n = outs ++ [(nm, n)] := hput.symm
      rw [hq]
      repeat' (first | refine aw_seq ?_ | refine zz ?_ | refine zon fun _ => ?_ | refine zoa fun vr lr hr => ?_ | refine zoS (fun _ => ?_) (fun _ => ?_) | refine zqS (fun _ => ?_) (fun _ => ?_) | refine zwS (fun _ => ?_) (fun _ => ?_))
      exact fun w' hw => ⟨_, rfl, hw.below, _, row_add hr rfl rfl, fun b o hm => hw.at_ b o (List.mem_append_left _ hm)⟩
    · have hq : putV es nm n = outs := by rw [← hput]; simp [putL]
      rw [hq]
      repeat' (first | refine aw_seq ?_ | refine zz ?_ | refine zon fun _ => ?_ | refine zoa fun vr lr hr => ?_ | refine zoS (fun _ => ?_) (fun _ => ?_) | refine zqS (fun _ => ?_) (fun _ => ?_) | refine zwS (fun _ => ?_) (fun _ => ?_))
      exact fun w' hw => ⟨_, rfl, hw.below, _, hr, fun b o hm => hw.at_ b o (List.mem_append_left _ hm)⟩
end Vec
end Go.Proofs.YtkjjlppfomidbaaGreat
