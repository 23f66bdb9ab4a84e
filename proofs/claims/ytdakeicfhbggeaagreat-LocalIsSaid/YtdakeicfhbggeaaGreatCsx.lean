/- The order of objects: what sorting gives; conditions: none. -/
import Derived.Test.YtdakeicfhbggeaaGreatEvs
import Derived.Test.YtdakeicfhbggeaaGreatLabo
import Derived.Test.YtdakeicfhbggeaaGreatSrm
import Derived.Test.YtdakeicfhbggeaaGreatSxw
import Derived.Test.YtdakeicfhbggeaaGreatChw
/- Evd: The order of objects: what sorting gives; conditions: none. -/
namespace Go.Proofs.YtdakeicfhbggeaaGreat
namespace Evt
open Go Go.RowKit Sx Lab Vec Ojt
abbrev keyT (o : Ob) : Nm := joinB o.k o.s o.n
theorem less_irrefl (a : Ob) : lessO a a = false := lt_irrefl _
theorem less_asymm {a b : Ob} (h : lessO a b = true) : lessO b a = false := lt_asymm h
theorem less_trans {a b c : Ob} (h : lessO a b = true) (g : lessO b c = true) : lessO a c = true := lt_trans h g
def Srt (l : List Ob) : Prop := l.Pairwise fun a b => lessO b a = false
theorem ins_memO {x o : Ob} : ∀ {l : List Ob}, o ∈ insO x l → o = x ∨ o ∈ l
  | [], h => .inl (List.mem_singleton.1 h)
  | y :: r, h => by
    unfold insO at h
    split at h
    · rcases List.mem_cons.1 h with h | h
      · exact .inl h
      · exact .inr h
    · rcases List.mem_cons.1 h with h | h
      · exact .inr (h ▸ List.mem_cons_self)
      · rcases ins_memO h with h | h
        · exact .inl h
        · exact .inr (List.mem_cons_of_mem y h)
theorem ins_perm (x : Ob) : ∀ (l : List Ob), (insO x l).Perm (x :: l)
  | [] => List.Perm.refl _
  | y :: r => by
    unfold insO
    split
    · exact List.Perm.refl _
    · exact ((ins_perm x r).cons y).trans (List.Perm.swap x y r)
theorem ins_srt {x : Ob} : ∀ {l : List Ob}, Srt l → Srt (insO x l)
  | [], _ => by unfold insO Srt; simp
  | y :: r, h => by
    unfold Srt at h
    rw [List.pairwise_cons] at h
    unfold insO
    split
    · rename_i hl
      unfold Srt
      rw [List.pairwise_cons, List.pairwise_cons]
      refine ⟨fun z hz => ?_, h⟩
      rcases List.mem_cons.1 hz with rfl | hz
      · exact less_asymm hl
      · cases hq : lessO z x
        · rfl
        · have := less_trans hq hl
          rw [h.1 z hz] at this
          cases this
    · rename_i hl
      unfold Srt
      rw [List.pairwise_cons]
      refine ⟨fun z hz => ?_, ins_srt h.2⟩
      rcases ins_memO hz with rfl | hz
      · simpa using hl
      · exact h.1 z hz
theorem fold_sort : ∀ (os outs : List Ob), Srt outs → Srt (os.foldl (fun out x => insO x out) outs) ∧ (os.foldl (fun out x => insO x out) outs).Perm (os ++ outs)
  | [], outs, h => ⟨h, List.Perm.refl _⟩
  | o :: os, outs, h => by
    obtain ⟨h1, h2⟩ := fold_sort os (insO o outs) (ins_srt h)
    refine ⟨h1, h2.trans ?_⟩
    exact ((ins_perm o outs).append_left os).trans List.perm_middle
theorem sort_srt (os : List Ob) : Srt (sortO os) := (fold_sort os [] List.Pairwise.nil).1
theorem sort_perm (os : List Ob) : (sortO os).Perm os := by
  have := (fold_sort os [] List.Pairwise.nil).2
  rwa [List.append_nil] at this
theorem adj_pair {α : Type} {R : α → α → Prop} (ht : ∀ {a b c}, R a b → R b c → R a c) : ∀ {l : List α}, (∀ (j : Nat) (p e : α), l[j]? = some p → l[j + 1]? = some e → R p e) → l.Pairwise R
  | [], _ => List.Pairwise.nil
  | [a], _ => by simp
  | a :: b :: r, h => by
    have ih := adj_pair (R := R) ht (l := b :: r) fun j p e hp he => h (j + 1) p e (by simpa using hp) (by simpa using he)
    have hab := h 0 a b rfl rfl
    rw [List.pairwise_cons]
    refine ⟨fun z hz => ?_, ih⟩
    rcases List.mem_cons.1 hz with rfl | hz
    · exact hab
    · exact ht hab ((List.pairwise_cons.1 ih).1 z hz)
theorem rel_iff {os : List Ob} {ver : Int} : relB os ver = true ↔ (∀ o ∈ os, rightO o = true ∧ o.ver ≤ ver) ∧ os.Pairwise fun a b => lessO a b = true := by
  unfold relB
  rw [List.all_eq_true]
  constructor
  · intro h
    have key : ∀ (j : Nat) (o : Ob), os[j]? = some o → relAt os ver j = true := fun j o hj => h j (List.mem_range.2 (List.getElem?_eq_some_iff.1 hj).1)
    refine ⟨fun o ho => ?_, adj_pair (R := fun a b => lessO a b = true) less_trans fun j p e hp he => ?_⟩
    · obtain ⟨j, hj⟩ := List.getElem?_of_mem ho
      have := key j o hj
      unfold relAt at this
      rw [hj] at this
      simp only [Bool.and_eq_true, decide_eq_true_eq] at this
      exact this.1
    · have := key (j + 1) e he
      unfold relAt at this
      rw [he] at this
      simp only [hp, Bool.and_eq_true] at this
      exact this.2
  · rintro ⟨h1, h2⟩ j hj
    obtain ⟨o, ho⟩ : ∃ o, os[j]? = some o := ⟨_, List.getElem?_eq_getElem (List.mem_range.1 hj)⟩
    have h3 := h1 o (List.mem_of_getElem? ho)
    unfold relAt
    rw [ho]
    simp only [Bool.and_eq_true, decide_eq_true_eq]
    refine ⟨h3, ?_⟩
    cases j with
    | zero => rfl
    | succ j =>
      obtain ⟨p, hp⟩ : ∃ p, os[j]? = some p := ⟨_, List.getElem?_eq_getElem (by have := (List.getElem?_eq_some_iff.1 ho).1; omega)⟩
      simp only [hp]
      obtain ⟨g1, rfl⟩ := List.getElem?_eq_some_iff.1 hp
      obtain ⟨g2, rfl⟩ := List.getElem?_eq_some_iff.1 ho
      exact List.pairwise_iff_getElem.1 h2 j (j + 1) g1 g2 (by omega)
theorem right_key {o : Ob} (h : rightO o = true) : keyB o.k o.s o.n = true := by
  unfold rightO at h
  simp only [Bool.and_eq_true] at h
  exact h.1
end Evt
end Go.Proofs.YtdakeicfhbggeaaGreat
/- Srd: Objects with the place that they came at: their order, and that there is one way alone to sort them; conditions: none. -/
namespace Go.Proofs.YtdakeicfhbggeaaGreat
namespace Evt
open Go Go.RowKit Sx Lab Vec Ojt
structure El where
  ix : Nat
  po : PO
  wf : wfS po.2
  fl : (cellsO po).all flat = true
def cmpE (u v : El) : Int := if lessO u.po.2 v.po.2 = true then -1 else if lessO v.po.2 u.po.2 = true then 1 else 0
theorem cmpE_neg (u v : El) : decide (cmpE u v < 0) = lessO u.po.2 v.po.2 := by
  unfold cmpE
  cases h : lessO u.po.2 v.po.2
  · rw [if_neg (by decide)]
    split <;> decide
  · rw [if_pos rfl]; decide
def ltE (u v : El) : Prop := lessO u.po.2 v.po.2 = true ∨ (lessO v.po.2 u.po.2 = false ∧ u.ix < v.ix)
theorem ltE_irrefl (u : El) : ¬ ltE u u := by
  rintro (h | ⟨-, h⟩)
  · rw [less_irrefl] at h; cases h
  · omega
theorem nless_trans {a b c : Ob} (h : lessO b a = false) (g : lessO c b = false) : lessO c a = false := by
  cases hq : lessO c a
  · rfl
  · cases hab : lessO a b
    · have e : keyT a = keyT b := bl_total _ _ hab h
      unfold lessO at hq g
      rw [show joinB a.k a.s a.n = joinB b.k b.s b.n from e] at hq
      rw [hq] at g
      cases g
    · rw [less_trans hq hab] at g; cases g
theorem less_nless {a b c : Ob} (h : lessO a b = true) (g : lessO c b = false) : lessO a c = true := by
  cases hq : lessO a c
  · have := nless_trans g hq
    cases hbc : lessO b c
    · have e : keyT b = keyT c := bl_total _ _ hbc g
      unfold lessO at h hq
      rw [show joinB b.k b.s b.n = joinB c.k c.s c.n from e] at h
      rw [h] at hq
      cases hq
    · rw [less_trans h hbc] at hq; cases hq
  · rfl
theorem nless_less {a b c : Ob} (h : lessO b a = false) (g : lessO b c = true) : lessO a c = true := by
  cases hab : lessO a b
  · have e : keyT a = keyT b := bl_total _ _ hab h
    unfold lessO at g ⊢
    rw [show joinB a.k a.s a.n = joinB b.k b.s b.n from e]
    exact g
  · exact less_trans hab g
theorem ltE_trans (u v w : El) (h : ltE u v) (g : ltE v w) : ltE u w := by
  rcases h with h | ⟨h1, h2⟩
  · rcases g with g | ⟨g1, g2⟩
    · exact .inl (less_trans h g)
    · exact .inl (less_nless h g1)
  · rcases g with g | ⟨g1, g2⟩
    · exact .inl (nless_less h1 g)
    · exact .inr ⟨nless_trans h1 g1, by omega⟩
def insE (u : El) : List El → List El
  | [] => [u]
  | y :: r => if lessO u.po.2 y.po.2 = true then u :: y :: r else y :: insE u r
def sortE (l : List El) : List El := l.foldl (fun out u => insE u out) []
theorem insE_mem {u y : El} : ∀ {l : List El}, y ∈ insE u l ↔ y = u ∨ y ∈ l
  | [] => by simp [insE]
  | z :: r => by
    unfold insE
    split
    · simp
    · rw [List.mem_cons, insE_mem, List.mem_cons]
      constructor
      · rintro (h | h | h)
        · exact .inr (.inl h)
        · exact .inl h
        · exact .inr (.inr h)
      · rintro (h | h | h)
        · exact .inr (.inl h)
        · exact .inl h
        · exact .inr (.inr h)
theorem insE_po (u : El) : ∀ (l : List El), (insE u l).map (·.po) = insP u.po (l.map (·.po))
  | [] => rfl
  | y :: r => by
    show (insE u (y :: r)).map (·.po) = insP u.po (y.po :: r.map (·.po))
    unfold insE insP
    split
    · rfl
    · rw [List.map_cons, insE_po u r]
theorem sortE_po (l : List El) : (sortE l).map (·.po) = sortP (l.map (·.po)) := by
  have key : ∀ (l outs : List El), (l.foldl (fun out u => insE u out) outs).map (·.po) = (l.map (·.po)).foldl (fun out x => insP x out) (outs.map (·.po)) := fun l => by
    induction l with
    | nil => intro outs; rfl
    | cons u l ih => intro outs; rw [List.foldl_cons, ih, insE_po]; rfl
  exact key l []
theorem sortE_snoc (l : List El) (u : El) : sortE (l ++ [u]) = insE u (sortE l) := by unfold sortE; rw [List.foldl_append]; rfl
theorem insE_pair {u : El} : ∀ {l : List El}, l.Pairwise ltE → (∀ y ∈ l, y.ix < u.ix) → (insE u l).Pairwise ltE
  | [], _, _ => by simp [insE]
  | y :: r, h, hx => by
    rw [List.pairwise_cons] at h
    unfold insE
    split
    · rename_i hl
      rw [List.pairwise_cons]
      refine ⟨fun z hz => ?_, List.pairwise_cons.2 h⟩
      rcases List.mem_cons.1 hz with rfl | hz
      · exact .inl hl
      · exact ltE_trans _ _ _ (.inl hl) (h.1 z hz)
    · rename_i hl
      rw [List.pairwise_cons]
      refine ⟨fun z hz => ?_, insE_pair h.2 fun z hz => hx z (List.mem_cons_of_mem _ hz)⟩
      rcases insE_mem.1 hz with rfl | hz
      · exact .inr ⟨by simpa using hl, hx y List.mem_cons_self⟩
      · exact h.1 z hz
theorem sortE_all (n : Nat) (d : Nat → El) (hd : ∀ k, k < n → (d k).ix = k) : ∀ m, m ≤ n → (sortE ((List.range m).map d)).Pairwise ltE ∧ ∀ y, y ∈ sortE ((List.range m).map d) ↔ y ∈ (List.range m).map d
  | 0, _ => ⟨List.Pairwise.nil, fun y => Iff.rfl⟩
  | m + 1, hm => by
    obtain ⟨h1, h2⟩ := sortE_all n d hd m (by omega)
    rw [List.range_succ, List.map_append, List.map_singleton, sortE_snoc]
    refine ⟨insE_pair h1 fun y hy => ?_, fun y => ?_⟩
    · obtain ⟨k, hk, rfl⟩ := List.mem_map.1 ((h2 y).1 hy)
      have := List.mem_range.1 hk
      rw [hd k (by omega), hd m (by omega)]
      exact this
    · rw [insE_mem, h2, List.mem_append, List.mem_singleton]
      exact or_comm
theorem sorted_is {n : Nat} {d e : Nat → El} (hd : ∀ k, k < n → (d k).ix = k) (hmv : Srt.Mv 0 n d e) (ho : Srt.Ord ltE e 0 n) : ((List.range n).map e).map (·.po) = sortP (((List.range n).map d).map (·.po)) := by
  obtain ⟨h1, h2⟩ := sortE_all n d hd n (Nat.le_refl _)
  rw [← sortE_po]
  congr 1
  exact Srt.ord_unique ltE_irrefl ltE_trans ho.pair h1 fun y => hmv.mem.trans (h2 y).symm
theorem insP_perm (p : PO) : ∀ (l : List PO), (insP p l).Perm (p :: l)
  | [] => List.Perm.refl _
  | y :: r => by
    unfold insP
    split
    · exact List.Perm.refl _
    · exact ((insP_perm p r).cons y).trans (List.Perm.swap p y r)
theorem sortP_perm (ps : List PO) : (sortP ps).Perm ps := by
  have key : ∀ (qs outs : List PO), (qs.foldl (fun out x => insP x out) outs).Perm (outs ++ qs) := fun qs => by
    induction qs with
    | nil => intro outs; rw [List.append_nil]; exact List.Perm.refl _
    | cons q qs ih =>
      intro outs
      rw [List.foldl_cons]
      refine (ih _).trans ?_
      refine ((insP_perm q outs).append_right qs).trans ?_
      exact List.perm_middle.symm
  exact key ps []
theorem parts_perm {α : Type} {K : α → Hp → Prop} {ls : Hp} {ps qs : List α} (h : ps.Perm qs) (hp : Parts K ls ps) : Parts K ls qs := by
  have key : ∀ {ps qs : List α}, ps.Perm qs → ∀ parts : List Hp, parts.length = ps.length → (∀ (i : Nat) (p : α) (l : Hp), ps[i]? = some p → parts[i]? = some l → K p l) → ∃ parts2 : List Hp, parts2.Perm parts ∧ parts2.length = qs.length ∧ ∀ (i : Nat) (p : α) (l : Hp), qs[i]? = some p → parts2[i]? = some l → K p l := by
    intro ps qs h
    induction h with
    | nil => exact fun parts h1 h2 => ⟨parts, List.Perm.refl _, h1, h2⟩
    | cons x _ ih =>
      intro parts h1 h2
      cases parts with
      | nil => simp at h1
      | cons q parts =>
        obtain ⟨p2, g1, g2, g3⟩ := ih parts (by simpa using h1) fun i p l hi hl => h2 (i + 1) p l (by simpa using hi) (by simpa using hl)
        refine ⟨q :: p2, g1.cons q, by simp [g2], fun i p l hi hl => ?_⟩
        cases i with
        | zero => exact h2 0 p l (by simpa using hi) (by simpa using hl)
        | succ i => exact g3 i p l (by simpa using hi) (by simpa using hl)
    | swap x y l =>
      intro parts h1 h2
      match parts, h1, h2 with
      | [], h1, _ => simp at h1
      | [_], h1, _ => simp at h1
      | q1 :: q2 :: parts, h1, h2 =>
        refine ⟨q2 :: q1 :: parts, List.Perm.swap q1 q2 parts, by simpa using h1, fun i p l hi hl => ?_⟩
        match i, hi, hl with
        | 0, hi, hl => exact h2 1 p l (by simpa using hi) (by simpa using hl)
        | 1, hi, hl => exact h2 0 p l (by simpa using hi) (by simpa using hl)
        | i + 2, hi, hl => exact h2 (i + 2) p l (by simpa using hi) (by simpa using hl)
    | trans _ _ ih1 ih2 =>
      intro parts h1 h2
      obtain ⟨p2, g1, g2, g3⟩ := ih1 parts h1 h2
      obtain ⟨p3, k1, k2, k3⟩ := ih2 p2 g2 g3
      exact ⟨p3, k1.trans g1, k2, k3⟩
  obtain ⟨parts, h1, h2, h3⟩ := hp
  obtain ⟨p2, g1, g2, g3⟩ := key h parts h2 h3
  exact ⟨p2, g1.flatten.trans h1, g2, g3⟩
end Evt
end Go.Proofs.YtdakeicfhbggeaaGreat
/- Cst: What a cache is, and becomes, as lists of objects and graves: the document's answer for layer 8; conditions: none. -/
namespace Go.Proofs.YtdakeicfhbggeaaGreat
namespace Chm
open Go Go.RowKit Sx Lab Vec Ojt Evt
def keyR (k : Kt) : Bool := keyB k.1 k.2.1 k.2.2
def lessK (a b : Kt) : Bool := Op.bytesLess (joinB a.1 a.2.1 a.2.2) (joinB b.1 b.2.1 b.2.2)
theorem right_keyR {o : Ob} (h : rightO o = true) : keyR (keyO o) = true := right_key h
theorem lessK_ne {a b : Kt} (h : lessK a b = true) : a ≠ b := fun e => by subst e; unfold lessK at h; rw [bl_irrefl] at h; cases h
theorem lessO_ne {a b : Ob} (h : lessO a b = true) : keyO a ≠ keyO b := lessK_ne (a := keyO a) (b := keyO b) h
theorem lessK_total {a b : Kt} (ha : keyR a = true) (hb : keyR b = true) (h1 : lessK a b = false) (h2 : lessK b a = false) : a = b := by
  obtain ⟨a1, a2, a3⟩ := a
  obtain ⟨b1, b2, b3⟩ := b
  obtain ⟨e1, e2, e3⟩ := join_inj ha hb (bl_total _ _ h1 h2)
  simp only at e1 e2 e3
  rw [e1, e2, e3]
def Rise (os : List Ob) : Prop := os.Pairwise (fun a b => lessO a b = true) ∧ ∀ o ∈ os, rightO o = true
theorem Rise.nil : Rise [] := ⟨List.Pairwise.nil, fun _ h => by cases h⟩
theorem Rise.sub {os l : List Ob} (h : Rise os) (hs : l.Sublist os) : Rise l := ⟨h.1.sublist hs, fun o ho => h.2 o (hs.subset ho)⟩
def Own (os : List Ob) : Prop := os.Pairwise fun a b => keyO a ≠ keyO b
theorem Rise.own {os : List Ob} (h : Rise os) : Own os := h.1.imp lessO_ne
theorem rise_sort {os : List Ob} (h : Own os) (hr : ∀ o ∈ os, rightO o = true) : Rise (sortO os) := by
  have hp := sort_perm os
  refine ⟨?_, fun o ho => hr o (hp.mem_iff.1 ho)⟩
  have h4 : (sortO os).Pairwise fun a b => keyO a ≠ keyO b := (hp.pairwise_iff (fun h => h.symm)).2 h
  have h5 : (sortO os).Pairwise fun a b => rightO a = true ∧ rightO b = true := List.pairwise_iff_getElem.2 fun i j hi hj _ => ⟨hr _ (hp.mem_iff.1 (List.getElem_mem hi)), hr _ (hp.mem_iff.1 (List.getElem_mem hj))⟩
  refine (List.pairwise_and_iff.2 ⟨List.pairwise_and_iff.2 ⟨sort_srt os, h4⟩, h5⟩).imp ?_
  rintro a b ⟨⟨h1, h2⟩, h3, h4⟩
  cases hl : lessO a b
  · exact absurd (lessK_total (right_keyR h3) (right_keyR h4) hl h1) h2
  · rfl
theorem rise_unique {l k : List Ob} (h1 : Rise l) (h2 : Rise k) (h : ∀ o, o ∈ l ↔ o ∈ k) : l = k :=
  Srt.ord_unique (lt := fun a b => lessO a b = true) (fun u h => by rw [less_irrefl] at h; cases h) (fun _ _ _ => less_trans) h1.1 h2.1 h
def getO (os : List Ob) (k : Kt) : Option Ob := os.find? fun o => decide (keyO o = k)
def hasO (os : List Ob) (k : Kt) : Bool := os.any fun o => decide (keyO o = k)
theorem getO_some {os : List Ob} {k : Kt} {o : Ob} (h : getO os k = some o) : o ∈ os ∧ keyO o = k := by
  have h1 := List.find?_some h
  exact ⟨List.mem_of_find?_eq_some h, of_decide_eq_true h1⟩
theorem getO_none {os : List Ob} {k : Kt} : getO os k = none ↔ ∀ o ∈ os, keyO o ≠ k := by
  unfold getO
  rw [List.find?_eq_none]
  simp
theorem getO_mem {os : List Ob} {o : Ob} (h : Own os) (ho : o ∈ os) : getO os (keyO o) = some o := by
  cases hg : getO os (keyO o) with
  | none => exact absurd rfl (getO_none.1 hg o ho)
  | some q =>
    obtain ⟨h1, h2⟩ := getO_some hg
    rw [Option.some.injEq]
    obtain ⟨i, hi, rfl⟩ := List.getElem_of_mem h1
    obtain ⟨j, hj, rfl⟩ := List.getElem_of_mem ho
    rcases Nat.lt_trichotomy i j with h3 | rfl | h3
    · exact absurd h2 (List.pairwise_iff_getElem.1 h i j hi hj h3)
    · rfl
    · exact absurd h2.symm (List.pairwise_iff_getElem.1 h j i hj hi h3)
theorem getO_iff {os : List Ob} {k : Kt} {o : Ob} (h : Own os) : getO os k = some o ↔ o ∈ os ∧ keyO o = k :=
  ⟨getO_some, fun ⟨h1, h2⟩ => h2 ▸ getO_mem h h1⟩
theorem getO_perm {os l : List Ob} (h : Own os) (hp : l.Perm os) (k : Kt) : getO l k = getO os k := by
  have h2 : Own l := (hp.pairwise_iff (fun h => h.symm)).2 h
  cases hg : getO os k with
  | none => exact getO_none.2 fun o ho => getO_none.1 hg o (hp.mem_iff.1 ho)
  | some o =>
    obtain ⟨g1, g2⟩ := getO_some hg
    exact (getO_iff h2).2 ⟨hp.mem_iff.2 g1, g2⟩
theorem hasO_iff {os : List Ob} {k : Kt} : hasO os k = true ↔ ∃ o ∈ os, keyO o = k := by simp [hasO]
def woO (os : List Ob) (k : Kt) : List Ob := os.filter fun o => decide (keyO o ≠ k)
def wiO (os : List Ob) (o : Ob) : List Ob := sortO (woO os (keyO o) ++ [o])
theorem woO_mem {os : List Ob} {k : Kt} {o : Ob} : o ∈ woO os k ↔ o ∈ os ∧ keyO o ≠ k := by simp [woO]
theorem woO_rise {os : List Ob} {k : Kt} (h : Rise os) : Rise (woO os k) := h.sub List.filter_sublist
theorem Own.filter {os : List Ob} {p : Ob → Bool} (h : Own os) : Own (os.filter p) := List.Pairwise.sublist List.filter_sublist h
theorem getO_filter {os : List Ob} {p : Ob → Bool} (h : Own os) (k : Kt) : getO (os.filter p) k = (getO os k).filter p := by
  cases hg : getO os k with
  | none => exact getO_none.2 fun o ho => getO_none.1 hg o (List.mem_filter.1 ho).1
  | some o =>
    obtain ⟨g1, g2⟩ := getO_some hg
    cases hp : p o
    · rw [Option.filter_some, hp, if_neg (by decide)]
      refine getO_none.2 fun q hq e => ?_
      obtain ⟨q1, q2⟩ := List.mem_filter.1 hq
      have := (getO_iff h).2 ⟨q1, e⟩
      rw [hg] at this
      cases this
      rw [hp] at q2
      cases q2
    · rw [Option.filter_some, hp, if_pos rfl]
      exact (getO_iff h.filter).2 ⟨List.mem_filter.2 ⟨g1, hp⟩, g2⟩
theorem getO_wo {os : List Ob} {k' : Kt} (h : Own os) (k : Kt) : getO (woO os k') k = if k = k' then none else getO os k := by
  unfold woO
  rw [getO_filter h]
  by_cases hk : k = k'
  · rw [if_pos hk]
    cases hg : getO os k with
    | none => rfl
    | some o =>
      rw [Option.filter_some, if_neg]
      simp [(getO_some hg).2, hk]
  · rw [if_neg hk]
    cases hg : getO os k with
    | none => rfl
    | some o =>
      rw [Option.filter_some, if_pos]
      simp [(getO_some hg).2, hk]
theorem own_snoc {os : List Ob} {o : Ob} (h : Own os) (hn : ∀ q ∈ os, keyO q ≠ keyO o) : Own (os ++ [o]) := by
  unfold Own at *
  rw [List.pairwise_append]
  exact ⟨h, List.pairwise_singleton _ _, fun a ha b hb => by rw [List.mem_singleton.1 hb]; exact hn a ha⟩
theorem wi_own {os : List Ob} {o : Ob} (h : Own os) : Own (woO os (keyO o) ++ [o]) := own_snoc h.filter fun _ hq => (woO_mem.1 hq).2
theorem wiO_mem {os : List Ob} {o q : Ob} : q ∈ wiO os o ↔ (q ∈ os ∧ keyO q ≠ keyO o) ∨ q = o := by
  unfold wiO
  rw [(sort_perm _).mem_iff, List.mem_append, woO_mem, List.mem_singleton]
theorem wiO_rise {os : List Ob} {o : Ob} (h : Rise os) (ho : rightO o = true) : Rise (wiO os o) :=
  rise_sort (wi_own h.own) fun q hq => by
    rcases List.mem_append.1 hq with hq | hq
    · exact h.2 q (woO_mem.1 hq).1
    · rw [List.mem_singleton.1 hq]; exact ho
theorem getO_wi {os : List Ob} {o : Ob} (h : Rise os) (ho : rightO o = true) (k : Kt) : getO (wiO os o) k = if k = keyO o then some o else getO os k := by
  have hr := (wiO_rise h ho).own
  by_cases hk : k = keyO o
  · rw [if_pos hk, hk]
    exact getO_mem hr (wiO_mem.2 (.inr rfl))
  · rw [if_neg hk]
    cases hg : getO os k with
    | none =>
      refine getO_none.2 fun q hq e => ?_
      rcases wiO_mem.1 hq with ⟨g1, -⟩ | rfl
      · exact getO_none.1 hg q g1 e
      · exact hk e.symm
    | some q =>
      obtain ⟨g1, g2⟩ := getO_some hg
      exact (getO_iff hr).2 ⟨wiO_mem.2 (.inl ⟨g1, by rw [g2]; exact hk⟩), g2⟩
end Chm
end Go.Proofs.YtdakeicfhbggeaaGreat
/- Csu: What a cache becomes with an event: the document's answer for layer 8; it never goes back; conditions: none. -/
namespace Go.Proofs.YtdakeicfhbggeaaGreat
namespace Chm
open Go Go.RowKit Sx Lab Vec Ojt Evt
structure St where
  os : List Ob
  gs : List Gr
  fl : Int
abbrev St.new : St := ⟨[], [], 0⟩
def knO (st : St) (k : Kt) : Int := knownG st.gs k (match getO st.os k with | some o => mx st.fl o.ver | none => st.fl)
theorem mx_le {p q n : Int} : mx p q ≤ n ↔ p ≤ n ∧ q ≤ n := by unfold mx; split <;> omega
theorem knownG_le {k : Kt} {n : Int} : ∀ {gs : List Gr} {m : Int}, knownG gs k m ≤ n ↔ m ≤ n ∧ ∀ g ∈ gs, g.1 = k → g.2 ≤ n
  | [], m => by simp [knownG]
  | g :: gs, m => by
    have ih := fun m => knownG_le (k := k) (n := n) (gs := gs) (m := m)
    unfold knownG at *
    rw [List.foldl_cons, ih]
    by_cases hg : g.1 = k
    · rw [if_pos hg, mx_le]
      constructor
      · rintro ⟨⟨h1, h2⟩, h3⟩
        refine ⟨h1, fun x hx e => ?_⟩
        rcases List.mem_cons.1 hx with rfl | hx
        · exact h2
        · exact h3 x hx e
      · rintro ⟨h1, h2⟩
        exact ⟨⟨h1, h2 g List.mem_cons_self hg⟩, fun x hx => h2 x (List.mem_cons_of_mem g hx)⟩
    · rw [if_neg hg]
      constructor
      · rintro ⟨h1, h3⟩
        refine ⟨h1, fun x hx e => ?_⟩
        rcases List.mem_cons.1 hx with rfl | hx
        · exact absurd e hg
        · exact h3 x hx e
      · rintro ⟨h1, h2⟩
        exact ⟨h1, fun x hx => h2 x (List.mem_cons_of_mem g hx)⟩
theorem knO_le {st : St} {k : Kt} {n : Int} : knO st k ≤ n ↔ st.fl ≤ n ∧ (∀ o, getO st.os k = some o → o.ver ≤ n) ∧ ∀ g ∈ st.gs, g.1 = k → g.2 ≤ n := by
  unfold knO
  rw [knownG_le]
  cases getO st.os k with
  | none => simp
  | some o => simp [mx_le, and_assoc]
theorem kn_fl (st : St) (k : Kt) : st.fl ≤ knO st k := (knO_le.1 (Int.le_refl _)).1
theorem kn_ob {st : St} {k : Kt} {o : Ob} (h : getO st.os k = some o) : o.ver ≤ knO st k := (knO_le.1 (Int.le_refl _)).2.1 o h
def insG (g : Gr) : List Gr → List Gr
  | [] => [g]
  | y :: r => if lessK g.1 y.1 = true then g :: y :: r else y :: insG g r
theorem insG_mem {g x : Gr} : ∀ {l : List Gr}, x ∈ insG g l ↔ x = g ∨ x ∈ l
  | [] => by simp [insG]
  | y :: r => by
    unfold insG
    split
    · simp
    · rw [List.mem_cons, insG_mem, List.mem_cons]
      constructor
      · rintro (h | h | h)
        · exact .inr (.inl h)
        · exact .inl h
        · exact .inr (.inr h)
      · rintro (h | h | h)
        · exact .inr (.inl h)
        · exact .inl h
        · exact .inr (.inr h)
theorem gravesP_mem {gs : List Gr} {k : Kt} {fl : Int} {g : Gr} : g ∈ gravesP gs k fl ↔ g ∈ gs ∧ g.1 ≠ k ∧ fl < g.2 := by simp [gravesP]
abbrev k0 : Kt := ([], [], [])
def takesO (st : St) (q : Ob) : Bool := decide (knO st (keyO q) < q.ver) || (match getO st.os (keyO q) with | some own => own.ver == q.ver | none => false)
def rlStep (st : St) (out : List Ob) (q : Ob) : List Ob := if takesO st q = true then wiO out q else out
def rlO (st : St) (qs : List Ob) (ver : Int) : List Ob := qs.foldl (rlStep st) (st.os.filter fun o => hasO qs (keyO o) || decide (ver < o.ver))
def nxO (st : St) (kind : Int) (o : Ob) (ver : Int) (qs : List Ob) : St :=
  if kind = 0 then ⟨wiO st.os o, gravesP st.gs (keyO o) st.fl, st.fl⟩
  else if kind = 1 then ⟨woO st.os (keyO o), insG (keyO o, o.ver) (gravesP st.gs (keyO o) st.fl), st.fl⟩
  else if kind = 2 then ⟨rlO st qs ver, gravesP st.gs k0 ver, ver⟩
  else ⟨st.os, gravesP st.gs k0 ver, ver⟩
structure De where
  key : Kt
  had : Bool
  has : Bool
  old : Ob
  new : Ob
instance (a b : De) : Decidable (a = b) :=
  decidable_of_iff (a.key = b.key ∧ a.had = b.had ∧ a.has = b.has ∧ a.old = b.old ∧ a.new = b.new) ⟨fun h => by
    obtain ⟨h1, h2, h3, h4, h5⟩ := h
    cases a; cases b
    simp_all, fun h => by subst h; exact ⟨rfl, rfl, rfl, rfl, rfl⟩⟩
abbrev zO : Ob := ⟨[], [], [], 0, [], false, false, []⟩
def dlO : List Ob → List Ob → List De
  | [], [] => []
  | x :: a, [] => ⟨keyO x, true, false, x, zO⟩ :: dlO a []
  | [], y :: b => ⟨keyO y, false, true, zO, y⟩ :: dlO [] b
  | x :: a, y :: b => if lessO x y = true then ⟨keyO x, true, false, x, zO⟩ :: dlO a (y :: b) else if lessO y x = true then ⟨keyO y, false, true, zO, y⟩ :: dlO (x :: a) b else if x = y then dlO a b else ⟨keyO x, true, true, x, y⟩ :: dlO a b
  termination_by a b => a.length + b.length
def lowO (st : St) (kind : Int) (o : Ob) : Int := if kind = 0 ∨ kind = 1 then knO st (keyO o) else st.fl
def apO (st : St) (kind : Int) (o : Ob) (ver : Int) (qs : List Ob) : Int × List De × St :=
  if rightE kind o ver qs = false then (1, [], st)
  else if (versE kind o ver qs).1 ≤ lowO st kind o then (6, [], st)
  else if 1000 < (nxO st kind o ver qs).os.length then (3, [], st)
  else (0, dlO st.os (nxO st kind o ver qs).os, nxO st kind o ver qs)
structure Fine (st : St) : Prop where
  os : Rise st.os
  gs : st.gs.Pairwise fun a b => lessK a.1 b.1 = true
  gk : ∀ g ∈ st.gs, keyR g.1 = true
  fl : 0 ≤ st.fl
theorem Fine.new : Fine .new := ⟨.nil, List.Pairwise.nil, (fun _ h => by cases h), Int.le_refl _⟩
theorem graves_sub {gs : List Gr} {k : Kt} {fl : Int} : (gravesP gs k fl).Sublist gs := List.filter_sublist
theorem lessK_trans {a b c : Kt} (h : lessK a b = true) (g : lessK b c = true) : lessK a c = true := bl_trans _ _ _ h g
theorem insG_rise {g : Gr} (hg : keyR g.1 = true) : ∀ {l : List Gr}, l.Pairwise (fun a b => lessK a.1 b.1 = true) → (∀ x ∈ l, keyR x.1 = true) → (∀ x ∈ l, x.1 ≠ g.1) → (insG g l).Pairwise fun a b => lessK a.1 b.1 = true
  | [], _, _, _ => by simp [insG]
  | y :: r, h, hk, hn => by
    rw [List.pairwise_cons] at h
    unfold insG
    split
    · rename_i hl
      rw [List.pairwise_cons]
      refine ⟨fun z hz => ?_, List.pairwise_cons.2 h⟩
      rcases List.mem_cons.1 hz with rfl | hz
      · exact hl
      · exact lessK_trans hl (h.1 z hz)
    · rename_i hl
      rw [List.pairwise_cons]
      refine ⟨fun z hz => ?_, insG_rise hg h.2 (fun x hx => hk x (List.mem_cons_of_mem y hx)) fun x hx => hn x (List.mem_cons_of_mem y hx)⟩
      rcases insG_mem.1 hz with rfl | hz
      · cases hyz : lessK y.1 z.1
        · exact absurd (lessK_total (hk y List.mem_cons_self) hg hyz (by simpa using hl)) (hn y List.mem_cons_self)
        · rfl
      · exact h.1 z hz
theorem rl_rise {st : St} : ∀ {qs out : List Ob}, Rise out → (∀ q ∈ qs, rightO q = true) → Rise (qs.foldl (rlStep st) out)
  | [], _, h, _ => h
  | q :: qs, out, h, hq => by
    rw [List.foldl_cons]
    refine rl_rise ?_ fun x hx => hq x (List.mem_cons_of_mem q hx)
    unfold rlStep
    split
    · exact wiO_rise h (hq q List.mem_cons_self)
    · exact h
theorem rl_get {st : St} {k : Kt} : ∀ {qs out : List Ob}, Rise out → (∀ q ∈ qs, rightO q = true) → Own qs →
    getO (qs.foldl (rlStep st) out) k = match getO qs k with | some q => if takesO st q = true then some q else getO out k | none => getO out k
  | [], _, _, _, _ => rfl
  | q :: qs, out, h, hq, ho => by
    unfold Own at ho
    rw [List.pairwise_cons] at ho
    have hr : Rise (rlStep st out q) := by
      unfold rlStep
      split
      · exact wiO_rise h (hq q List.mem_cons_self)
      · exact h
    rw [List.foldl_cons, rl_get hr (fun x hx => hq x (List.mem_cons_of_mem q hx)) ho.2]
    by_cases hk : keyO q = k
    · have h1 : getO (q :: qs) k = some q := by unfold getO; rw [List.find?_cons, decide_eq_true hk]
      have h2 : getO qs k = none := getO_none.2 fun x hx e => ho.1 x hx (hk.trans e.symm)
      rw [h1, h2]
      simp only
      unfold rlStep
      split
      · rw [getO_wi h (hq q List.mem_cons_self), if_pos hk.symm]
      · rfl
    · have h1 : getO (q :: qs) k = getO qs k := by unfold getO; rw [List.find?_cons, decide_eq_false hk]
      have h2 : getO (rlStep st out q) k = getO out k := by
        unfold rlStep
        split
        · rw [getO_wi h (hq q List.mem_cons_self), if_neg fun e => hk e.symm]
        · rfl
      rw [h1, h2]
theorem rlO_rise {st : St} {qs : List Ob} {ver : Int} (h : Rise st.os) (hq : ∀ q ∈ qs, rightO q = true) : Rise (rlO st qs ver) := rl_rise (h.sub List.filter_sublist) hq
theorem rlO_get {st : St} {qs : List Ob} {ver : Int} (h : Rise st.os) (hq : ∀ q ∈ qs, rightO q = true) (ho : Own qs) (k : Kt) :
    getO (rlO st qs ver) k = match getO qs k with | some q => if takesO st q = true then some q else getO st.os k | none => (getO st.os k).filter fun o => decide (ver < o.ver) := by
  unfold rlO
  rw [rl_get (h.sub List.filter_sublist) hq ho, getO_filter h.own]
  cases hg : getO qs k with
  | none =>
    simp only
    cases hs : getO st.os k with
    | none => rfl
    | some o =>
      have h2 : hasO qs (keyO o) = false := by
        cases hh : hasO qs (keyO o)
        · rfl
        · obtain ⟨x, hx, e⟩ := hasO_iff.1 hh
          exact absurd (e.trans (getO_some hs).2) (getO_none.1 hg x hx)
      rw [Option.filter_some, Option.filter_some, h2, Bool.false_or]
  | some q =>
    simp only
    split
    · rfl
    · cases hs : getO st.os k with
      | none => rfl
      | some o =>
        have h2 : hasO qs (keyO o) = true := hasO_iff.2 ⟨q, (getO_some hg).1, (getO_some hg).2.trans (getO_some hs).2.symm⟩
        rw [Option.filter_some, h2, Bool.true_or, if_pos rfl]
theorem right_del {o : Ob} {ver : Int} {qs : List Ob} (h : rightE 1 o ver qs = true) : keyR (keyO o) = true ∧ 1 ≤ o.ver := by
  have : (keyB o.k o.s o.n && decide (1 ≤ o.ver)) = true := h
  simpa [keyR] using this
theorem right_rel {o : Ob} {ver : Int} {qs : List Ob} (h : rightE 2 o ver qs = true) : Rise qs ∧ (∀ q ∈ qs, q.ver ≤ ver) ∧ 0 ≤ ver := by
  have h1 : (relB qs ver && (decide (0 ≤ ver) && decide (qs.length ≤ 1000))) = true := h
  simp only [Bool.and_eq_true, decide_eq_true_eq] at h1
  obtain ⟨g1, g2⟩ := rel_iff.1 h1.1
  exact ⟨⟨g2, fun q hq => (g1 q hq).1⟩, fun q hq => (g1 q hq).2, h1.2.1⟩
theorem right_kind {kind : Int} {o : Ob} {ver : Int} {qs : List Ob} (h : rightE kind o ver qs = true) : kind = 0 ∨ kind = 1 ∨ kind = 2 ∨ kind = 3 := by
  unfold rightE at h
  repeat' split at h
  all_goals simp_all
theorem right_mark {o : Ob} {ver : Int} {qs : List Ob} (h : rightE 3 o ver qs = true) : 0 ≤ ver := of_decide_eq_true h
theorem vers_is {kind : Int} {o : Ob} {ver : Int} {qs : List Ob} (h : rightE kind o ver qs = true) : (versE kind o ver qs).1 = if kind = 0 ∨ kind = 1 then o.ver else ver := by unfold versE; rw [if_pos h]
theorem nxO_fine {st : St} {kind : Int} {o : Ob} {ver : Int} {qs : List Ob} (h : Fine st) (hr : rightE kind o ver qs = true) : Fine (nxO st kind o ver qs) := by
  have g1 : ∀ k fl, (gravesP st.gs k fl).Pairwise fun a b => lessK a.1 b.1 = true := fun k fl => h.gs.sublist graves_sub
  have g2 : ∀ k fl, ∀ g ∈ gravesP st.gs k fl, keyR g.1 = true := fun k fl g hg => h.gk g (graves_sub.subset hg)
  rcases right_kind hr with rfl | rfl | rfl | rfl
  · exact ⟨wiO_rise h.os hr, g1 _ _, g2 _ _, h.fl⟩
  · obtain ⟨k1, k2⟩ := right_del hr
    exact ⟨woO_rise h.os, insG_rise k1 (g1 _ _) (g2 _ _) fun x hx => (gravesP_mem.1 hx).2.1, fun g hg => by
      rcases insG_mem.1 hg with rfl | hg
      · exact k1
      · exact g2 _ _ g hg, h.fl⟩
  · obtain ⟨r1, r2, r3⟩ := right_rel hr
    exact ⟨rlO_rise h.os r1.2, g1 _ _, g2 _ _, r3⟩
  · exact ⟨h.os, g1 _ _, g2 _ _, right_mark hr⟩
theorem key0_no : keyR k0 = false := by decide
end Chm
end Go.Proofs.YtdakeicfhbggeaaGreat
/- Csv: What a cache becomes with events: an event's outcome, deltas that make what there is, the last one counts; conditions: none. -/
namespace Go.Proofs.YtdakeicfhbggeaaGreat
namespace Chm
open Go Go.RowKit Sx Lab Vec Ojt Evt
theorem ap_cases (st : St) (kind : Int) (o : Ob) (ver : Int) (qs : List Ob) :
    ((apO st kind o ver qs).1 ≠ 0 ∧ (apO st kind o ver qs).2.1 = [] ∧ (apO st kind o ver qs).2.2 = st) ∨
    ((apO st kind o ver qs).1 = 0 ∧ rightE kind o ver qs = true ∧ lowO st kind o < (versE kind o ver qs).1 ∧ (apO st kind o ver qs).2.1 = dlO st.os (nxO st kind o ver qs).os ∧ (apO st kind o ver qs).2.2 = nxO st kind o ver qs) := by
  unfold apO
  by_cases h1 : rightE kind o ver qs = false
  · rw [if_pos h1]; exact .inl ⟨by simp, rfl, rfl⟩
  · rw [if_neg h1]
    by_cases h2 : (versE kind o ver qs).1 ≤ lowO st kind o
    · rw [if_pos h2]; exact .inl ⟨by simp, rfl, rfl⟩
    · rw [if_neg h2]
      by_cases h3 : 1000 < (nxO st kind o ver qs).os.length
      · rw [if_pos h3]; exact .inl ⟨by simp, rfl, rfl⟩
      · rw [if_neg h3]; exact .inr ⟨rfl, by simpa using h1, by omega, rfl, rfl⟩
theorem ap_fine {st : St} {kind : Int} {o : Ob} {ver : Int} {qs : List Ob} (h : Fine st) : Fine (apO st kind o ver qs).2.2 := by
  rcases ap_cases st kind o ver qs with ⟨-, -, e⟩ | ⟨-, h1, h2, -, e⟩
  · rw [e]; exact h
  · rw [e]; exact nxO_fine h h1
def playO (own : List Ob) (d : De) : List Ob := woO own d.key ++ (if d.has = true then [d.new] else [])
def toldO (own : List Ob) (d : De) : Prop := (match getO own d.key with | some o => d.had = true ∧ d.old = o | none => d.had = false ∧ d.old = zO) ∧ (d.has = true → keyO d.new = d.key) ∧ (d.has = false → d.new = zO) ∧ ¬ (d.old = d.new ∧ d.had = d.has)
def playsO : List Ob → List De → Prop
  | _, [] => True
  | own, d :: ds => toldO own d ∧ playsO (playO own d) ds
def madeO (own : List Ob) (ds : List De) : List Ob := ds.foldl playO own
theorem woO_perm {l m : List Ob} (h : l.Perm m) (k : Kt) : (woO l k).Perm (woO m k) := h.filter _
theorem woO_none {l : List Ob} {k : Kt} (h : ∀ o ∈ l, keyO o ≠ k) : woO l k = l := List.filter_eq_self.2 fun o ho => by simpa using h o ho
theorem woO_mid {l m : List Ob} {o : Ob} (h1 : ∀ q ∈ l, keyO q ≠ keyO o) (h2 : ∀ q ∈ m, keyO q ≠ keyO o) : woO (l ++ o :: m) (keyO o) = l ++ m := by
  have e1 := woO_none h1
  have e2 := woO_none h2
  unfold woO at *
  rw [List.filter_append, List.filter_cons, e1, e2, if_neg (by simp)]
theorem plays_all : ∀ (a b done own : List Ob), own.Perm (done ++ a) → Own (done ++ a) → Own (done ++ b) → Rise a → Rise b → (∀ q ∈ done, ∀ y ∈ b, keyO q ≠ keyO y) →
    playsO own (dlO a b) ∧ (madeO own (dlO a b)).Perm (done ++ b)
  | [], [], done, own, h, _, _, _, _, _ => by
    rw [dlO]
    exact ⟨trivial, h⟩
  | x :: a, [], done, own, h, ho1, ho2, ha, hb, hd => by
    rw [dlO]
    have hx := List.pairwise_append.1 ho1
    have hxa := List.pairwise_cons.1 hx.2.1
    have n1 : ∀ q ∈ done, keyO q ≠ keyO x := fun q hq => hx.2.2 q hq x List.mem_cons_self
    have hp : (playO own ⟨keyO x, true, false, x, zO⟩).Perm (done ++ a) := by
      unfold playO
      rw [if_neg (by simp), List.append_nil]
      refine (woO_perm h _).trans ?_
      rw [woO_mid n1 fun q hq => (hxa.1 q hq).symm]
    have ho3 : Own (done ++ a) := ho1.sublist (List.Sublist.append_left (List.sublist_cons_self x a) done)
    obtain ⟨g1, g2⟩ := plays_all a [] done _ hp ho3 ho2 (ha.sub (List.sublist_cons_self x a)) hb (fun _ _ _ hy => by cases hy)
    refine ⟨⟨⟨?_, (fun h => by cases h), (fun _ => rfl), fun h => by cases h.2⟩, g1⟩, g2⟩
    rw [getO_perm ho1 h, getO_mem ho1 (List.mem_append_right _ List.mem_cons_self)]
    exact ⟨rfl, rfl⟩
  | [], y :: b, done, own, h, ho1, ho2, ha, hb, hd => by
    rw [dlO]
    have hyb := List.pairwise_cons.1 (List.pairwise_append.1 ho2).2.1
    have n1 : ∀ q ∈ done, keyO q ≠ keyO y := fun q hq => hd q hq y List.mem_cons_self
    have hp : (playO own ⟨keyO y, false, true, zO, y⟩).Perm ((done ++ [y]) ++ []) := by
      unfold playO
      rw [if_pos rfl, List.append_nil]
      refine List.Perm.append_right [y] ?_
      refine (woO_perm h _).trans ?_
      rw [List.append_nil, woO_none n1]
    have ho4 : Own ((done ++ [y]) ++ []) := by
      rw [List.append_nil] at *
      exact own_snoc ho1 n1
    have ho5 : Own ((done ++ [y]) ++ b) := by rw [List.append_assoc]; exact ho2
    obtain ⟨g1, g2⟩ := plays_all [] b (done ++ [y]) _ hp ho4 ho5 ha (hb.sub (List.sublist_cons_self y b)) fun q hq z hz => by
      rcases List.mem_append.1 hq with hq | hq
      · exact hd q hq z (List.mem_cons_of_mem y hz)
      · rw [List.mem_singleton.1 hq]; exact hyb.1 z hz
    refine ⟨⟨⟨?_, (fun _ => rfl), (fun h => by cases h), fun h => by cases h.2⟩, g1⟩, by rw [List.append_assoc] at g2; exact g2⟩
    have hn : getO own (⟨keyO y, false, true, zO, y⟩ : De).key = none := by
      rw [getO_perm ho1 h]
      refine getO_none.2 fun q hq => ?_
      rw [List.append_nil] at hq
      exact n1 q hq
    rw [hn]
    exact ⟨rfl, rfl⟩
  | x :: a, y :: b, done, own, h, ho1, ho2, ha, hb, hd => by
    have hx := List.pairwise_append.1 ho1
    have hxa := List.pairwise_cons.1 hx.2.1
    have hyb := List.pairwise_cons.1 (List.pairwise_append.1 ho2).2.1
    have n1 : ∀ q ∈ done, keyO q ≠ keyO x := fun q hq => hx.2.2 q hq x List.mem_cons_self
    have n2 : ∀ q ∈ done, keyO q ≠ keyO y := fun q hq => hd q hq y List.mem_cons_self
    have ra := List.pairwise_cons.1 ha.1
    have rb := List.pairwise_cons.1 hb.1
    have ha2 := ha.sub (List.sublist_cons_self x a)
    have hb2 := hb.sub (List.sublist_cons_self y b)
    have ho3 : Own (done ++ a) := ho1.sublist (List.Sublist.append_left (List.sublist_cons_self x a) done)
    have ho5 : Own ((done ++ [y]) ++ b) := by rw [List.append_assoc]; exact ho2
    have hd2 : ∀ q ∈ done ++ [y], ∀ z ∈ b, keyO q ≠ keyO z := fun q hq z hz => by
      rcases List.mem_append.1 hq with hq | hq
      · exact hd q hq z (List.mem_cons_of_mem y hz)
      · rw [List.mem_singleton.1 hq]; exact hyb.1 z hz
    rw [dlO]
    by_cases hl : lessO x y = true
    · rw [if_pos hl]
      have hp : (playO own ⟨keyO x, true, false, x, zO⟩).Perm (done ++ a) := by
        unfold playO
        rw [if_neg (by simp), List.append_nil]
        refine (woO_perm h _).trans ?_
        rw [woO_mid n1 fun q hq => (hxa.1 q hq).symm]
      obtain ⟨g1, g2⟩ := plays_all a (y :: b) done _ hp ho3 ho2 ha2 hb hd
      refine ⟨⟨⟨?_, (fun h => by cases h), (fun _ => rfl), fun h => by cases h.2⟩, g1⟩, g2⟩
      rw [getO_perm ho1 h, getO_mem ho1 (List.mem_append_right _ List.mem_cons_self)]
      exact ⟨rfl, rfl⟩
    · rw [if_neg hl]
      by_cases hm : lessO y x = true
      · rw [if_pos hm]
        have n3 : ∀ q ∈ done ++ x :: a, keyO q ≠ keyO y := fun q hq => by
          rcases List.mem_append.1 hq with hq | hq
          · exact n2 q hq
          · rcases List.mem_cons.1 hq with rfl | hq
            · exact (lessO_ne hm).symm
            · exact (lessO_ne (less_trans hm (ra.1 q hq))).symm
        have hp : (playO own ⟨keyO y, false, true, zO, y⟩).Perm ((done ++ [y]) ++ (x :: a)) := by
          unfold playO
          rw [if_pos rfl]
          refine (List.Perm.append_right [y] ((woO_perm h _).trans (by rw [woO_none n3]))).trans ?_
          rw [List.append_assoc, List.append_assoc]
          exact List.Perm.append_left done List.perm_append_comm
        have ho4 : Own ((done ++ [y]) ++ (x :: a)) := by
          refine (List.Perm.pairwise_iff (fun h => h.symm) ?_).2 (own_snoc ho1 n3)
          rw [List.append_assoc, List.append_assoc]
          exact List.Perm.append_left done List.perm_append_comm
        obtain ⟨g1, g2⟩ := plays_all (x :: a) b (done ++ [y]) _ hp ho4 ho5 ha hb2 hd2
        refine ⟨⟨⟨?_, (fun _ => rfl), (fun h => by cases h), fun h => by cases h.2⟩, g1⟩, by rw [List.append_assoc] at g2; exact g2⟩
        have hn : getO own (⟨keyO y, false, true, zO, y⟩ : De).key = none := by
          rw [getO_perm ho1 h]
          exact getO_none.2 n3
        rw [hn]
        exact ⟨rfl, rfl⟩
      · rw [if_neg hm]
        have hk : keyO x = keyO y := lessK_total (right_keyR (ha.2 x List.mem_cons_self)) (right_keyR (hb.2 y List.mem_cons_self)) (Bool.eq_false_iff.2 hl) (Bool.eq_false_iff.2 hm)
        have n4 : ∀ q ∈ done ++ a, keyO q ≠ keyO y := fun q hq => by
          rcases List.mem_append.1 hq with hq | hq
          · exact n2 q hq
          · rw [← hk]; exact (hxa.1 q hq).symm
        have pm : ∀ {l : List Ob}, l.Perm (done ++ a) → (l ++ [y]).Perm ((done ++ [y]) ++ a) := fun hl => by
          refine (List.Perm.append_right [y] hl).trans ?_
          rw [List.append_assoc, List.append_assoc]
          exact List.Perm.append_left done List.perm_append_comm
        have ho4 : Own ((done ++ [y]) ++ a) := (List.Perm.pairwise_iff (fun h => h.symm) (pm (List.Perm.refl _))).1 (own_snoc ho3 n4)
        by_cases hxy : x = y
        · subst hxy
          rw [if_pos rfl]
          have hp : own.Perm ((done ++ [x]) ++ a) := by rw [List.append_assoc]; exact h
          obtain ⟨g1, g2⟩ := plays_all a b (done ++ [x]) _ hp ho4 ho5 ha2 hb2 hd2
          exact ⟨g1, by rw [List.append_assoc] at g2; exact g2⟩
        · rw [if_neg hxy]
          have hp : (playO own ⟨keyO x, true, true, x, y⟩).Perm ((done ++ [y]) ++ a) := by
            unfold playO
            rw [if_pos rfl]
            refine pm ((woO_perm h _).trans ?_)
            rw [woO_mid n1 fun q hq => (hxa.1 q hq).symm]
          obtain ⟨g1, g2⟩ := plays_all a b (done ++ [y]) _ hp ho4 ho5 ha2 hb2 hd2
          refine ⟨⟨⟨?_, (fun _ => hk.symm), (fun h => by cases h), fun h => hxy h.1⟩, g1⟩, by rw [List.append_assoc] at g2; exact g2⟩
          rw [getO_perm ho1 h, getO_mem ho1 (List.mem_append_right _ List.mem_cons_self)]
          exact ⟨rfl, rfl⟩
  termination_by a b => a.length + b.length
theorem dl_keys : ∀ (a b : List Ob), Rise a → Rise b → (∀ d ∈ dlO a b, (∃ x ∈ a, d.key = keyO x) ∨ ∃ y ∈ b, d.key = keyO y) ∧ (dlO a b).Pairwise fun d e => lessK d.key e.key = true
  | [], [], _, _ => by rw [dlO]; exact ⟨(fun _ h => by cases h), List.Pairwise.nil⟩
  | x :: a, [], ha, hb => by
    have ra := List.pairwise_cons.1 ha.1
    obtain ⟨g1, g2⟩ := dl_keys a [] (ha.sub (List.sublist_cons_self x a)) hb
    rw [dlO]
    refine ⟨fun d hd => ?_, List.pairwise_cons.2 ⟨fun d hd => ?_, g2⟩⟩
    · rcases List.mem_cons.1 hd with rfl | hd
      · exact .inl ⟨x, List.mem_cons_self, rfl⟩
      · rcases g1 d hd with ⟨z, hz, e⟩ | ⟨z, hz, e⟩
        · exact .inl ⟨z, List.mem_cons_of_mem x hz, e⟩
        · cases hz
    · rcases g1 d hd with ⟨z, hz, e⟩ | ⟨z, hz, e⟩
      · rw [e]; exact ra.1 z hz
      · cases hz
  | [], y :: b, ha, hb => by
    have rb := List.pairwise_cons.1 hb.1
    obtain ⟨g1, g2⟩ := dl_keys [] b ha (hb.sub (List.sublist_cons_self y b))
    rw [dlO]
    refine ⟨fun d hd => ?_, List.pairwise_cons.2 ⟨fun d hd => ?_, g2⟩⟩
    · rcases List.mem_cons.1 hd with rfl | hd
      · exact .inr ⟨y, List.mem_cons_self, rfl⟩
      · rcases g1 d hd with ⟨z, hz, e⟩ | ⟨z, hz, e⟩
        · cases hz
        · exact .inr ⟨z, List.mem_cons_of_mem y hz, e⟩
    · rcases g1 d hd with ⟨z, hz, e⟩ | ⟨z, hz, e⟩
      · cases hz
      · rw [e]; exact rb.1 z hz
  | x :: a, y :: b, ha, hb => by
    have ra := List.pairwise_cons.1 ha.1
    have rb := List.pairwise_cons.1 hb.1
    have ha2 := ha.sub (List.sublist_cons_self x a)
    have hb2 := hb.sub (List.sublist_cons_self y b)
    rw [dlO]
    by_cases hl : lessO x y = true
    · rw [if_pos hl]
      obtain ⟨g1, g2⟩ := dl_keys a (y :: b) ha2 hb
      refine ⟨fun d hd => ?_, List.pairwise_cons.2 ⟨fun d hd => ?_, g2⟩⟩
      · rcases List.mem_cons.1 hd with rfl | hd
        · exact .inl ⟨x, List.mem_cons_self, rfl⟩
        · exact (g1 d hd).imp (fun ⟨z, hz, e⟩ => ⟨z, List.mem_cons_of_mem x hz, e⟩) id
      · rcases g1 d hd with ⟨z, hz, e⟩ | ⟨z, hz, e⟩
        · rw [e]; exact ra.1 z hz
        · rw [e]
          rcases List.mem_cons.1 hz with rfl | hz
          · exact hl
          · exact less_trans hl (rb.1 z hz)
    · rw [if_neg hl]
      by_cases hm : lessO y x = true
      · rw [if_pos hm]
        obtain ⟨g1, g2⟩ := dl_keys (x :: a) b ha hb2
        refine ⟨fun d hd => ?_, List.pairwise_cons.2 ⟨fun d hd => ?_, g2⟩⟩
        · rcases List.mem_cons.1 hd with rfl | hd
          · exact .inr ⟨y, List.mem_cons_self, rfl⟩
          · exact (g1 d hd).imp id fun ⟨z, hz, e⟩ => ⟨z, List.mem_cons_of_mem y hz, e⟩
        · rcases g1 d hd with ⟨z, hz, e⟩ | ⟨z, hz, e⟩
          · rw [e]
            rcases List.mem_cons.1 hz with rfl | hz
            · exact hm
            · exact less_trans hm (ra.1 z hz)
          · rw [e]; exact rb.1 z hz
      · rw [if_neg hm]
        have hk : keyO x = keyO y := lessK_total (right_keyR (ha.2 x List.mem_cons_self)) (right_keyR (hb.2 y List.mem_cons_self)) (Bool.eq_false_iff.2 hl) (Bool.eq_false_iff.2 hm)
        obtain ⟨g1, g2⟩ := dl_keys a b ha2 hb2
        have up : ∀ d : De, ((∃ z ∈ a, d.key = keyO z) ∨ ∃ z ∈ b, d.key = keyO z) → (∃ z ∈ x :: a, d.key = keyO z) ∨ ∃ z ∈ y :: b, d.key = keyO z := fun d h => h.imp (fun ⟨z, hz, e⟩ => ⟨z, List.mem_cons_of_mem x hz, e⟩) fun ⟨z, hz, e⟩ => ⟨z, List.mem_cons_of_mem y hz, e⟩
        by_cases hxy : x = y
        · rw [if_pos hxy]
          exact ⟨fun d hd => up d (g1 d hd), g2⟩
        · rw [if_neg hxy]
          refine ⟨fun d hd => ?_, List.pairwise_cons.2 ⟨fun d hd => ?_, g2⟩⟩
          · rcases List.mem_cons.1 hd with rfl | hd
            · exact .inl ⟨x, List.mem_cons_self, rfl⟩
            · exact up d (g1 d hd)
          · rcases g1 d hd with ⟨z, hz, e⟩ | ⟨z, hz, e⟩
            · rw [e]; exact ra.1 z hz
            · rw [e]
              show lessK (keyO x) (keyO z) = true
              rw [hk]
              exact rb.1 z hz
  termination_by a b => a.length + b.length
end Chm
end Go.Proofs.YtdakeicfhbggeaaGreat
/- Csx: Puts and Deletes with versions of their own: the last one counts, in whatever order they come; conditions: none. -/
namespace Go.Proofs.YtdakeicfhbggeaaGreat
namespace Chm
open Go Go.RowKit Sx Lab Vec Ojt Evt
end Chm
end Go.Proofs.YtdakeicfhbggeaaGreat
