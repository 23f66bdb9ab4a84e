/- The order of objects: what sorting gives; conditions: none. -/
import Derived.Test.YtbllkmhkpapgeaaEvn
import Derived.Test.YtbllkmhkpapgeaaLabo
namespace Go.Proofs.Ytbllkmhkpapgeaa
namespace Evt
open Go Go.RowKit Sx Lab Vec Ojt

abbrev keyT (o : Ob) : Nm := joinB o.k o.s o.n
theorem less_irrefl (a : Ob) : lessO a a = false := lt_irrefl _
theorem less_asymm {a b : Ob} (h : lessO a b = true) : lessO b a = false := lt_asymm h
theorem less_trans {a b c : Ob} (h : lessO a b = true) (g : lessO b c = true) : lessO a c = true := lt_trans h g
theorem less_ne {a b : Ob} (h : lessO a b = true) : keyT a ≠ keyT b := Vec.lt_ne h
/-- None is ahead of one ahead of it. -/
def Srt (l : List Ob) : Prop := l.Pairwise fun a b => lessO b a = false
theorem ins_memO {x o : Ob} : ∀ {l : List Ob}, o ∈ insO x l → o = x ∨ o ∈ l
  | [], h => .inl (List.mem_singleton.1 h)
  | y :: r, h => by
    unfold insO at h
    split at h
    · rcases List.mem_cons.1 h with h | h
      · exact .inl h
      · exact .inr h
    · rcases List.mem_cons.1 h with h | h
      · exact .inr (h ▸ List.mem_cons_self)
      · rcases ins_memO h with h | h
        · exact .inl h
        · exact .inr (List.mem_cons_of_mem y h)
theorem ins_perm (x : Ob) : ∀ (l : List Ob), (insO x l).Perm (x :: l)
  | [] => List.Perm.refl _
  | y :: r => by
    unfold insO
    split
    · exact List.Perm.refl _
    · exact ((ins_perm x r).cons y).trans (List.Perm.swap x y r)
theorem ins_srt {x : Ob} : ∀ {l : List Ob}, Srt l → Srt (insO x l)
  | [], _ => by unfold insO Srt; simp
  | y :: r, h => by
    unfold Srt at h
    rw [List.pairwise_cons] at h
    unfold insO
    split
    · rename_i hl
      unfold Srt
      rw [List.pairwise_cons, List.pairwise_cons]
      refine ⟨fun z hz => ?_, h⟩
      rcases List.mem_cons.1 hz with rfl | hz
      · exact less_asymm hl
      · cases hq : lessO z x
        · rfl
        · have := less_trans hq hl
          rw [h.1 z hz] at this
          cases this
    · rename_i hl
      unfold Srt
      rw [List.pairwise_cons]
      refine ⟨fun z hz => ?_, ins_srt h.2⟩
      rcases ins_memO hz with rfl | hz
      · simpa using hl
      · exact h.1 z hz
theorem fold_sort : ∀ (os outs : List Ob), Srt outs → Srt (os.foldl (fun out x => insO x out) outs) ∧ (os.foldl (fun out x => insO x out) outs).Perm (os ++ outs)
  | [], outs, h => ⟨h, List.Perm.refl _⟩
  | o :: os, outs, h => by
    obtain ⟨h1, h2⟩ := fold_sort os (insO o outs) (ins_srt h)
    refine ⟨h1, h2.trans ?_⟩
    exact ((ins_perm o outs).append_left os).trans List.perm_middle
theorem sort_srt (os : List Ob) : Srt (sortO os) := (fold_sort os [] List.Pairwise.nil).1
theorem sort_perm (os : List Ob) : (sortO os).Perm os := by
  have := (fold_sort os [] List.Pairwise.nil).2
  rwa [List.append_nil] at this
theorem ins_end {x : Ob} : ∀ {l : List Ob}, (∀ y ∈ l, lessO x y = false) → insO x l = l ++ [x]
  | [], _ => rfl
  | y :: r, h => by
    unfold insO
    rw [if_neg (by rw [h y List.mem_cons_self]; decide), ins_end fun z hz => h z (List.mem_cons_of_mem y hz)]
    rfl
theorem fold_id : ∀ (os outs : List Ob), Srt (outs ++ os) → os.foldl (fun out x => insO x out) outs = outs ++ os
  | [], outs, _ => by simp
  | o :: os, outs, h => by
    rw [List.foldl_cons, ins_end fun y hy => (List.pairwise_append.1 h).2.2 y hy o List.mem_cons_self, fold_id os (outs ++ [o]) (by rw [List.append_assoc]; exact h), List.append_assoc]
    rfl
theorem sort_id {os : List Ob} (h : Srt os) : sortO os = os := by
  have := fold_id os [] h
  simpa [sortO] using this
theorem adj_pair {α : Type} {R : α → α → Prop} (ht : ∀ {a b c}, R a b → R b c → R a c) : ∀ {l : List α}, (∀ (j : Nat) (p e : α), l[j]? = some p → l[j + 1]? = some e → R p e) → l.Pairwise R
  | [], _ => List.Pairwise.nil
  | [a], _ => by simp
  | a :: b :: r, h => by
    have ih := adj_pair (R := R) ht (l := b :: r) fun j p e hp he => h (j + 1) p e (by simpa using hp) (by simpa using he)
    have hab := h 0 a b rfl rfl
    rw [List.pairwise_cons]
    refine ⟨fun z hz => ?_, ih⟩
    rcases List.mem_cons.1 hz with rfl | hz
    · exact hab
    · exact ht hab ((List.pairwise_cons.1 ih).1 z hz)
/-- What a relist's objects are. -/
theorem rel_iff {os : List Ob} {ver : Int} : relB os ver = true ↔ (∀ o ∈ os, rightO o = true ∧ o.ver ≤ ver) ∧ os.Pairwise fun a b => lessO a b = true := by
  unfold relB
  rw [List.all_eq_true]
  constructor
  · intro h
    have key : ∀ (j : Nat) (o : Ob), os[j]? = some o → relAt os ver j = true := fun j o hj => h j (List.mem_range.2 (List.getElem?_eq_some_iff.1 hj).1)
    refine ⟨fun o ho => ?_, adj_pair (R := fun a b => lessO a b = true) less_trans fun j p e hp he => ?_⟩
    · obtain ⟨j, hj⟩ := List.getElem?_of_mem ho
      have := key j o hj
      unfold relAt at this
      rw [hj] at this
      simp only [Bool.and_eq_true, decide_eq_true_eq] at this
      exact this.1
    · have := key (j + 1) e he
      unfold relAt at this
      rw [he] at this
      simp only [hp, Bool.and_eq_true] at this
      exact this.2
  · rintro ⟨h1, h2⟩ j hj
    obtain ⟨o, ho⟩ : ∃ o, os[j]? = some o := ⟨_, List.getElem?_eq_getElem (List.mem_range.1 hj)⟩
    have h3 := h1 o (List.mem_of_getElem? ho)
    unfold relAt
    rw [ho]
    simp only [Bool.and_eq_true, decide_eq_true_eq]
    refine ⟨h3, ?_⟩
    cases j with
    | zero => rfl
    | succ j =>
      obtain ⟨p, hp⟩ : ∃ p, os[j]? = some p := ⟨_, List.getElem?_eq_getElem (by have := (List.getElem?_eq_some_iff.1 ho).1; omega)⟩
      simp only [hp]
      obtain ⟨g1, rfl⟩ := List.getElem?_eq_some_iff.1 hp
      obtain ⟨g2, rfl⟩ := List.getElem?_eq_some_iff.1 ho
      exact List.pairwise_iff_getElem.1 h2 j (j + 1) g1 g2 (by omega)
theorem rise_srt {os : List Ob} (h : os.Pairwise fun a b => lessO a b = true) : Srt os := h.imp less_asymm
/-- Each may be, and has a key of its own. -/
def singleP (os : List Ob) : Prop := ∀ (j : Nat) (o : Ob), os[j]? = some o → rightO o = true ∧ ∀ (k : Nat) (q : Ob), k ≠ j → os[k]? = some q → ¬ (q.k = o.k ∧ q.s = o.s ∧ q.n = o.n)
theorem right_key {o : Ob} (h : rightO o = true) : keyB o.k o.s o.n = true := by
  unfold rightO at h
  simp only [Bool.and_eq_true] at h
  exact h.1
theorem single_iff {os : List Ob} {ver : Int} (hv : ∀ o ∈ os, o.ver ≤ ver) : relB (sortO os) ver = true ↔ singleP os := by
  have hp := sort_perm os
  have hsym : ∀ {a b : Ob}, keyT a ≠ keyT b → keyT b ≠ keyT a := fun h => h.symm
  rw [rel_iff]
  constructor
  · rintro ⟨h1, h2⟩
    have h3 : os.Pairwise fun a b => keyT a ≠ keyT b := (hp.pairwise_iff hsym).1 (h2.imp less_ne)
    intro j o hj
    refine ⟨(h1 o (hp.mem_iff.2 (List.mem_of_getElem? hj))).1, fun k q hk hq ⟨e1, e2, e3⟩ => ?_⟩
    obtain ⟨g1, rfl⟩ := List.getElem?_eq_some_iff.1 hj
    obtain ⟨g2, rfl⟩ := List.getElem?_eq_some_iff.1 hq
    have he : keyT os[k] = keyT os[j] := by unfold keyT; rw [e1, e2, e3]
    rcases Nat.lt_or_gt_of_ne hk with h | h
    · exact List.pairwise_iff_getElem.1 h3 k j g2 g1 h he
    · exact List.pairwise_iff_getElem.1 h3 j k g1 g2 h he.symm
  · intro h
    have h1 : ∀ o ∈ os, rightO o = true := fun o ho => by
      obtain ⟨j, hj⟩ := List.getElem?_of_mem ho
      exact (h j o hj).1
    have h3 : os.Pairwise fun a b => keyT a ≠ keyT b := List.pairwise_iff_getElem.2 fun j k g1 g2 hjk he => by
      have hj := h1 _ (List.getElem_mem g1)
      have hk := h1 _ (List.getElem_mem g2)
      exact (h k _ (List.getElem?_eq_getElem g2)).2 j _ (by omega) (List.getElem?_eq_getElem g1) (join_inj (right_key hj) (right_key hk) he)
    refine ⟨fun o ho => ⟨h1 o (hp.mem_iff.1 ho), hv o (hp.mem_iff.1 ho)⟩, ?_⟩
    have h4 := (hp.pairwise_iff hsym).2 h3
    refine (List.pairwise_and_iff.2 ⟨sort_srt os, h4⟩).imp ?_
    intro a b h
    obtain ⟨ha, hb⟩ := h
    cases hl : lessO a b
    · exact absurd (lt_total (a := keyT a) (b := keyT b) hl ha) hb
    · rfl
/-- How many of these are that one? -/
def cntO (o : Ob) (l : List Ob) : Nat := l.countP fun q => decide (q = o)
theorem cnt_snoc {o q : Ob} {l : List Ob} {k : Nat} (h : l[k]? = some q) : cntO o (l.take (k + 1)) = cntO o (l.take k) + (if q = o then 1 else 0) := by
  unfold cntO
  rw [List.take_add_one, h, List.countP_append]
  by_cases e : q = o <;> simp [e]
theorem cnt_sort (o : Ob) (os : List Ob) : cntO o (sortO os) = cntO o os := (sort_perm os).countP_eq _
end Evt
end Go.Proofs.Ytbllkmhkpapgeaa
