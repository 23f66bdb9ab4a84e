/- Objects with the place that they came at: their order, and that there is one way alone to sort them; conditions: none. -/
import Derived.Test.YtbllkmhkpapgeaaSrs
import Derived.Test.YtbllkmhkpapgeaaEvd
import Derived.Test.YtbllkmhkpapgeaaSxw
namespace Go.Proofs.Ytbllkmhkpapgeaa
namespace Evt
open Go Go.RowKit Sx Lab Vec Ojt

/-- An object, the place that it came at; its names are short, its charge is a slice. -/
structure El where
  ix : Nat
  po : PO
  wf : wfS po.2
  fl : (cellsO po).all flat = true
def cmpE (u v : El) : Int := if lessO u.po.2 v.po.2 = true then -1 else if lessO v.po.2 u.po.2 = true then 1 else 0
theorem cmpE_neg (u v : El) : decide (cmpE u v < 0) = lessO u.po.2 v.po.2 := by
  unfold cmpE
  cases h : lessO u.po.2 v.po.2
  · rw [if_neg (by decide)]
    split <;> decide
  · rw [if_pos rfl]; decide
def ltE (u v : El) : Prop := lessO u.po.2 v.po.2 = true ∨ (lessO v.po.2 u.po.2 = false ∧ u.ix < v.ix)
theorem ltE_irrefl (u : El) : ¬ ltE u u := by
  rintro (h | ⟨-, h⟩)
  · rw [less_irrefl] at h; cases h
  · omega
theorem nless_trans {a b c : Ob} (h : lessO b a = false) (g : lessO c b = false) : lessO c a = false := by
  cases hq : lessO c a
  · rfl
  · cases hab : lessO a b
    · have e : keyT a = keyT b := bl_total _ _ hab h
      unfold lessO at hq g
      rw [show joinB a.k a.s a.n = joinB b.k b.s b.n from e] at hq
      rw [hq] at g
      cases g
    · rw [less_trans hq hab] at g; cases g
theorem less_nless {a b c : Ob} (h : lessO a b = true) (g : lessO c b = false) : lessO a c = true := by
  cases hq : lessO a c
  · have := nless_trans g hq
    cases hbc : lessO b c
    · have e : keyT b = keyT c := bl_total _ _ hbc g
      unfold lessO at h hq
      rw [show joinB b.k b.s b.n = joinB c.k c.s c.n from e] at h
      rw [h] at hq
      cases hq
    · rw [less_trans h hbc] at hq; cases hq
  · rfl
theorem nless_less {a b c : Ob} (h : lessO b a = false) (g : lessO b c = true) : lessO a c = true := by
  cases hab : lessO a b
  · have e : keyT a = keyT b := bl_total _ _ hab h
    unfold lessO at g ⊢
    rw [show joinB a.k a.s a.n = joinB b.k b.s b.n from e]
    exact g
  · exact less_trans hab g
theorem ltE_trans (u v w : El) (h : ltE u v) (g : ltE v w) : ltE u w := by
  rcases h with h | ⟨h1, h2⟩
  · rcases g with g | ⟨g1, g2⟩
    · exact .inl (less_trans h g)
    · exact .inl (less_nless h g1)
  · rcases g with g | ⟨g1, g2⟩
    · exact .inl (nless_less h1 g)
    · exact .inr ⟨nless_trans h1 g1, by omega⟩

def insE (u : El) : List El → List El
  | [] => [u]
  | y :: r => if lessO u.po.2 y.po.2 = true then u :: y :: r else y :: insE u r
def sortE (l : List El) : List El := l.foldl (fun out u => insE u out) []
theorem insE_mem {u y : El} : ∀ {l : List El}, y ∈ insE u l ↔ y = u ∨ y ∈ l
  | [] => by simp [insE]
  | z :: r => by
    unfold insE
    split
    · simp
    · rw [List.mem_cons, insE_mem, List.mem_cons]
      constructor
      · rintro (h | h | h)
        · exact .inr (.inl h)
        · exact .inl h
        · exact .inr (.inr h)
      · rintro (h | h | h)
        · exact .inr (.inl h)
        · exact .inl h
        · exact .inr (.inr h)
theorem insE_po (u : El) : ∀ (l : List El), (insE u l).map (·.po) = insP u.po (l.map (·.po))
  | [] => rfl
  | y :: r => by
    show (insE u (y :: r)).map (·.po) = insP u.po (y.po :: r.map (·.po))
    unfold insE insP
    split
    · rfl
    · rw [List.map_cons, insE_po u r]
theorem sortE_po (l : List El) : (sortE l).map (·.po) = sortP (l.map (·.po)) := by
  have key : ∀ (l outs : List El), (l.foldl (fun out u => insE u out) outs).map (·.po) = (l.map (·.po)).foldl (fun out x => insP x out) (outs.map (·.po)) := fun l => by
    induction l with
    | nil => intro outs; rfl
    | cons u l ih => intro outs; rw [List.foldl_cons, ih, insE_po]; rfl
  exact key l []
theorem sortE_snoc (l : List El) (u : El) : sortE (l ++ [u]) = insE u (sortE l) := by unfold sortE; rw [List.foldl_append]; rfl
theorem insE_pair {u : El} : ∀ {l : List El}, l.Pairwise ltE → (∀ y ∈ l, y.ix < u.ix) → (insE u l).Pairwise ltE
  | [], _, _ => by simp [insE]
  | y :: r, h, hx => by
    rw [List.pairwise_cons] at h
    unfold insE
    split
    · rename_i hl
      rw [List.pairwise_cons]
      refine ⟨fun z hz => ?_, List.pairwise_cons.2 h⟩
      rcases List.mem_cons.1 hz with rfl | hz
      · exact .inl hl
      · exact ltE_trans _ _ _ (.inl hl) (h.1 z hz)
    · rename_i hl
      rw [List.pairwise_cons]
      refine ⟨fun z hz => ?_, insE_pair h.2 fun z hz => hx z (List.mem_cons_of_mem _ hz)⟩
      rcases insE_mem.1 hz with rfl | hz
      · exact .inr ⟨by simpa using hl, hx y List.mem_cons_self⟩
      · exact h.1 z hz
/-- Objects, each with its place. -/
theorem sortE_all (n : Nat) (d : Nat → El) (hd : ∀ k, k < n → (d k).ix = k) : ∀ m, m ≤ n → (sortE ((List.range m).map d)).Pairwise ltE ∧ ∀ y, y ∈ sortE ((List.range m).map d) ↔ y ∈ (List.range m).map d
  | 0, _ => ⟨List.Pairwise.nil, fun y => Iff.rfl⟩
  | m + 1, hm => by
    obtain ⟨h1, h2⟩ := sortE_all n d hd m (by omega)
    rw [List.range_succ, List.map_append, List.map_singleton, sortE_snoc]
    refine ⟨insE_pair h1 fun y hy => ?_, fun y => ?_⟩
    · obtain ⟨k, hk, rfl⟩ := List.mem_map.1 ((h2 y).1 hy)
      have := List.mem_range.1 hk
      rw [hd k (by omega), hd m (by omega)]
      exact this
    · rw [insE_mem, h2, List.mem_append, List.mem_singleton]
      exact or_comm
/-- What is in order, and has what there was, is what sorting gives. -/
theorem sorted_is {n : Nat} {d e : Nat → El} (hd : ∀ k, k < n → (d k).ix = k) (hmv : Srt.Mv 0 n d e) (ho : Srt.Ord ltE e 0 n) : ((List.range n).map e).map (·.po) = sortP (((List.range n).map d).map (·.po)) := by
  obtain ⟨h1, h2⟩ := sortE_all n d hd n (Nat.le_refl _)
  rw [← sortE_po]
  congr 1
  exact Srt.ord_unique ltE_irrefl ltE_trans ho.pair h1 fun y => hmv.mem.trans (h2 y).symm
theorem insP_perm (p : PO) : ∀ (l : List PO), (insP p l).Perm (p :: l)
  | [] => List.Perm.refl _
  | y :: r => by
    unfold insP
    split
    · exact List.Perm.refl _
    · exact ((insP_perm p r).cons y).trans (List.Perm.swap p y r)
theorem sortP_perm (ps : List PO) : (sortP ps).Perm ps := by
  have key : ∀ (qs outs : List PO), (qs.foldl (fun out x => insP x out) outs).Perm (outs ++ qs) := fun qs => by
    induction qs with
    | nil => intro outs; rw [List.append_nil]; exact List.Perm.refl _
    | cons q qs ih =>
      intro outs
      rw [List.foldl_cons]
      refine (ih _).trans ?_
      refine ((insP_perm q outs).append_right qs).trans ?_
      exact List.perm_middle.symm
  exact key ps []
/-- Each has a part of its own, in whatever order. -/
theorem parts_perm {α : Type} {K : α → Hp → Prop} {ls : Hp} {ps qs : List α} (h : ps.Perm qs) (hp : Parts K ls ps) : Parts K ls qs := by
  have key : ∀ {ps qs : List α}, ps.Perm qs → ∀ parts : List Hp, parts.length = ps.length → (∀ (i : Nat) (p : α) (l : Hp), ps[i]? = some p → parts[i]? = some l → K p l) → ∃ parts2 : List Hp, parts2.Perm parts ∧ parts2.length = qs.length ∧ ∀ (i : Nat) (p : α) (l : Hp), qs[i]? = some p → parts2[i]? = some l → K p l := by
    intro ps qs h
    induction h with
    | nil => exact fun parts h1 h2 => ⟨parts, List.Perm.refl _, h1, h2⟩
    | cons x _ ih =>
      intro parts h1 h2
      cases parts with
      | nil => simp at h1
      | cons q parts =>
        obtain ⟨p2, g1, g2, g3⟩ := ih parts (by simpa using h1) fun i p l hi hl => h2 (i + 1) p l (by simpa using hi) (by simpa using hl)
        refine ⟨q :: p2, g1.cons q, by simp [g2], fun i p l hi hl => ?_⟩
        cases i with
        | zero => exact h2 0 p l (by simpa using hi) (by simpa using hl)
        | succ i => exact g3 i p l (by simpa using hi) (by simpa using hl)
    | swap x y l =>
      intro parts h1 h2
      match parts, h1, h2 with
      | [], h1, _ => simp at h1
      | [_], h1, _ => simp at h1
      | q1 :: q2 :: parts, h1, h2 =>
        refine ⟨q2 :: q1 :: parts, List.Perm.swap q1 q2 parts, by simpa using h1, fun i p l hi hl => ?_⟩
        match i, hi, hl with
        | 0, hi, hl => exact h2 1 p l (by simpa using hi) (by simpa using hl)
        | 1, hi, hl => exact h2 0 p l (by simpa using hi) (by simpa using hl)
        | i + 2, hi, hl => exact h2 (i + 2) p l (by simpa using hi) (by simpa using hl)
    | trans _ _ ih1 ih2 =>
      intro parts h1 h2
      obtain ⟨p2, g1, g2, g3⟩ := ih1 parts h1 h2
      obtain ⟨p3, k1, k2, k3⟩ := ih2 p2 g2 g3
      exact ⟨p3, k1.trans g1, k2, k3⟩
  obtain ⟨parts, h1, h2, h3⟩ := hp
  obtain ⟨p2, g1, g2, g3⟩ := key h parts h2 h3
  exact ⟨p2, g1.flatten.trans h1, g2, g3⟩
end Evt
end Go.Proofs.Ytbllkmhkpapgeaa
