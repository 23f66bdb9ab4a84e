/- What a tree is: its nodes, with their parents; paths; conditions: none. -/
import Derived.Test.YtonhfddklkbnbaaBord
/- Tra: What a tree is: its nodes, with their parents; paths; conditions: none. -/
namespace Go.Proofs.Ytonhfddklkbnbaa
namespace Trt
open Go

theorem getP {α : Type} {l : List α} {i : Nat} (h : i < l.length) : ∃ a, l[i]? = some a := ⟨_, List.getElem?_eq_getElem h⟩
abbrev Nm := List UInt8
abbrev Tr := List (Nm × Nm)
def rootN : Nm := [114, 111, 111, 116]
def hasT (t : Tr) (s : Nm) : Bool := t.any fun e => decide (e.1 = s)
def parT (t : Tr) (s : Nm) : Nm := match t.find? fun e => decide (e.1 = s) with | some e => e.2 | none => []
/-- A path, of so many nodes at most. -/
def pathN (t : Tr) : Nat → Nm → List Nm
  | 0, _ => []
  | k + 1, s => if hasT t s = true then s :: pathN t k (parT t s) else []
/-- A path, where none is longer than eight. -/
def pathT (t : Tr) (s : Nm) : List Nm := pathN t 9 s
def childT (t : Tr) (s : Nm) : List Nm := (t.filter fun e => decide (e.2 = s) && decide (e.1 ≠ rootN)).map (·.1)
def belowT (t : Tr) (s : Nm) : List Nm := (t.filter fun e => decide (s ∈ pathT t e.1)).map (·.1)
theorem has_iff {t : Tr} {s : Nm} : hasT t s = true ↔ ∃ e ∈ t, e.1 = s := by
  unfold hasT
  rw [List.any_eq_true]
  simp
theorem pathN_len (t : Tr) : ∀ k s, (pathN t k s).length ≤ k
  | 0, _ => Nat.le_refl _
  | k + 1, s => by
    unfold pathN
    split
    · rw [List.length_cons]
      have := pathN_len t k (parT t s)
      omega
    · exact Nat.zero_le _
/-- A path that has ended is the path, however many nodes there might be. -/
theorem pathN_stop (t : Tr) : ∀ k s, (pathN t k s).length < k → ∀ m, k ≤ m → pathN t m s = pathN t k s
  | 0, _, h, _, _ => absurd h (Nat.not_lt_zero _)
  | k + 1, s, h, m, hm => by
    obtain ⟨n, rfl⟩ : ∃ n, m = n + 1 := ⟨m - 1, by omega⟩
    unfold pathN at h ⊢
    by_cases hs : hasT t s = true
    · rw [if_pos hs] at h ⊢
      rw [if_pos hs, pathN_stop t k _ (by rw [List.length_cons] at h; omega) n (by omega)]
    · rw [if_neg hs, if_neg hs]

/-- Such a tree as there can be. -/
structure WfT (t : Tr) : Prop where
  rise : t.Pairwise fun a b => Op.bytesLess a.1 b.1 = true
  root : (rootN, []) ∈ t
  ne : ∀ e ∈ t, e.1 ≠ []
  up : ∀ e ∈ t, e.1 ≠ rootN → hasT t e.2 = true
  deep : ∀ e ∈ t, (pathT t e.1).length ≤ 8
section
variable {t : Tr} (h : WfT t)
include h
theorem WfT.inj {a b : Nm × Nm} (ha : a ∈ t) (hb : b ∈ t) (e : a.1 = b.1) : a = b := by
  obtain ⟨i, hi⟩ := List.getElem?_of_mem ha
  obtain ⟨j, hj⟩ := List.getElem?_of_mem hb
  obtain ⟨hi1, hi2⟩ := List.getElem?_eq_some_iff.1 hi
  obtain ⟨hj1, hj2⟩ := List.getElem?_eq_some_iff.1 hj
  have hp := List.pairwise_iff_getElem.1 h.rise
  rcases Nat.lt_trichotomy i j with hlt | rfl | hlt
  · have := hp i j hi1 hj1 hlt
    rw [hi2, hj2, e, Bord.bl_irrefl] at this
    cases this
  · rw [hi] at hj; exact Option.some.inj hj
  · have := hp j i hj1 hi1 hlt
    rw [hi2, hj2, e, Bord.bl_irrefl] at this
    cases this
theorem WfT.par {e : Nm × Nm} (he : e ∈ t) : parT t e.1 = e.2 := by
  unfold parT
  cases hf : t.find? fun x => decide (x.1 = e.1) with
  | none =>
    rw [List.find?_eq_none] at hf
    exact absurd (decide_eq_true rfl) (hf e he)
  | some x =>
    have hx := List.mem_of_find?_eq_some hf
    have hk := List.find?_some hf
    rw [decide_eq_true_eq] at hk
    rw [h.inj hx he hk]
omit h in
theorem par_none {s : Nm} (hs : hasT t s = false) : parT t s = [] := by
  unfold parT
  have : t.find? (fun x => decide (x.1 = s)) = none := by
    rw [List.find?_eq_none]
    intro x hx hk
    have : hasT t s = true := has_iff.2 ⟨x, hx, of_decide_eq_true hk⟩
    rw [hs] at this
    cases this
  rw [this]
theorem WfT.no_nil : hasT t [] = false := by
  cases hs : hasT t []
  · rfl
  · obtain ⟨e, he, h0⟩ := has_iff.1 hs
    exact absurd h0 (h.ne e he)
omit h in
theorem path_none {s : Nm} (hs : hasT t s = false) : pathT t s = [] := by
  unfold pathT pathN
  rw [if_neg (by rw [hs]; decide)]
/-- A node's path is it, and its parent's. -/
theorem WfT.path {e : Nm × Nm} (he : e ∈ t) : pathT t e.1 = e.1 :: pathT t e.2 := by
  have hs : hasT t e.1 = true := has_iff.2 ⟨e, he, rfl⟩
  have hd := h.deep e he
  have h1 : pathT t e.1 = e.1 :: pathN t 8 e.2 := by
    show pathN t (8 + 1) e.1 = _
    rw [pathN, if_pos hs, h.par he]
  rw [h1] at hd ⊢
  rw [List.length_cons] at hd
  unfold pathT
  rw [pathN_stop t 8 e.2 (by omega) 9 (by omega)]
theorem WfT.path_root : pathT t rootN = [rootN] := by
  have := h.path h.root
  simp only at this
  rw [this, path_none h.no_nil]
/-- Up to the root. -/
theorem WfT.ends : ∀ n, ∀ e ∈ t, (pathT t e.1).length ≤ n → (pathT t e.1).getLast? = some rootN
  | 0, e, he, hl => by
    rw [h.path he, List.length_cons] at hl
    omega
  | n + 1, e, he, hl => by
    by_cases hr : e.1 = rootN
    · rw [hr, h.path_root]; rfl
    · obtain ⟨x, hx, hxe⟩ := has_iff.1 (h.up e he hr)
      have hp := h.path he
      have := WfT.ends n x hx (by rw [hp, List.length_cons, ← hxe] at hl; omega)
      rw [hp, ← hxe]
      have hne : pathT t x.1 ≠ [] := by rw [h.path hx]; exact List.cons_ne_nil _ _
      rw [List.getLast?_cons]
      rw [this]
      rfl
theorem WfT.mem_path : ∀ n, ∀ e ∈ t, (pathT t e.1).length ≤ n → ∀ s ∈ pathT t e.1, hasT t s = true ∧ (pathT t s).length ≤ (pathT t e.1).length ∧ (s ≠ e.1 → (pathT t s).length < (pathT t e.1).length)
  | 0, e, he, hl, s, hs => by
    rw [h.path he, List.length_cons] at hl
    omega
  | n + 1, e, he, hl, s, hs => by
    have hp := h.path he
    rw [hp] at hs
    rcases List.mem_cons.1 hs with rfl | hs
    · exact ⟨has_iff.2 ⟨e, he, rfl⟩, Nat.le_refl _, fun h => absurd rfl h⟩
    · by_cases hh : hasT t e.2 = true
      · obtain ⟨x, hx, hxe⟩ := has_iff.1 hh
        rw [← hxe] at hs
        rw [hp, List.length_cons, ← hxe] at hl ⊢
        obtain ⟨h1, h2, -⟩ := WfT.mem_path n x hx (by omega) s hs
        exact ⟨h1, by omega, fun _ => by omega⟩
      · rw [path_none (by simpa using hh)] at hs
        cases hs
/-- No node twice. -/
theorem WfT.nodup : ∀ n, ∀ e ∈ t, (pathT t e.1).length ≤ n → (pathT t e.1).Nodup
  | 0, e, he, hl => by
    rw [h.path he, List.length_cons] at hl
    omega
  | n + 1, e, he, hl => by
    have hp := h.path he
    rw [hp, List.nodup_cons]
    by_cases hh : hasT t e.2 = true
    · obtain ⟨x, hx, hxe⟩ := has_iff.1 hh
      rw [hp, List.length_cons, ← hxe] at hl
      rw [← hxe]
      refine ⟨fun hm => ?_, WfT.nodup n x hx (by omega)⟩
      have := (h.mem_path n x hx (by omega) e.1 hm).2.1
      rw [hp, List.length_cons, ← hxe] at this
      omega
    · rw [path_none (by simpa using hh)]
      exact ⟨(fun h => by cases h), List.nodup_nil⟩
end
end Trt
end Go.Proofs.Ytonhfddklkbnbaa
/- Trb: What Create and Remove make of a tree; conditions: none. -/
namespace Go.Proofs.Ytonhfddklkbnbaa
namespace Trt
open Go

def insT (x : Nm × Nm) : Tr → Tr
  | [] => [x]
  | e :: t => if Op.bytesLess x.1 e.1 = true then x :: e :: t else e :: insT x t
/-- Create, by whether the name is a label. -/
def createT (rg : Bool) (t : Tr) (name parent : Nm) : Int × Tr :=
  if rg = false then (1, t) else if hasT t name = true then (5, t) else if hasT t parent = false then (4, t) else if 8 < (pathT t parent).length + 1 then (9, t) else if 200 < t.length + 1 then (3, t) else (0, insT (name, parent) t)
def removeT (t : Tr) (name : Nm) : Int × Tr :=
  if hasT t name = false then (4, t) else if name = rootN then (1, t) else if childT t name ≠ [] then (10, t) else (0, t.filter fun e => decide (e.1 ≠ name))
theorem insT_mem {x y : Nm × Nm} : ∀ {t : Tr}, y ∈ insT x t ↔ y = x ∨ y ∈ t
  | [] => by simp [insT]
  | e :: t => by
    unfold insT
    split
    · exact List.mem_cons
    · rw [List.mem_cons, insT_mem, List.mem_cons]
      constructor
      · rintro (h | h | h)
        · exact .inr (.inl h)
        · exact .inl h
        · exact .inr (.inr h)
      · rintro (h | h | h)
        · exact .inr (.inl h)
        · exact .inl h
        · exact .inr (.inr h)
theorem insT_len {x : Nm × Nm} : ∀ {t : Tr}, (insT x t).length = t.length + 1
  | [] => rfl
  | e :: t => by
    unfold insT
    split
    · rfl
    · rw [List.length_cons, insT_len, List.length_cons]
theorem insT_rise {x : Nm × Nm} : ∀ {t : Tr}, t.Pairwise (fun a b => Op.bytesLess a.1 b.1 = true) → (∀ e ∈ t, e.1 ≠ x.1) → (insT x t).Pairwise fun a b => Op.bytesLess a.1 b.1 = true
  | [], _, _ => List.pairwise_singleton _ _
  | e :: t, h, hn => by
    rw [List.pairwise_cons] at h
    unfold insT
    split
    · rename_i hx
      refine List.pairwise_cons.2 ⟨fun y hy => ?_, List.pairwise_cons.2 h⟩
      rcases List.mem_cons.1 hy with rfl | hy
      · exact hx
      · exact Bord.bl_trans _ _ _ hx (h.1 y hy)
    · rename_i hx
      refine List.pairwise_cons.2 ⟨fun y hy => ?_, insT_rise h.2 fun y hy => hn y (List.mem_cons_of_mem _ hy)⟩
      rcases insT_mem.1 hy with rfl | hy
      · cases hl : Op.bytesLess e.1 y.1
        · exact absurd (Bord.bl_total _ _ hl (by simpa using hx)) (hn e List.mem_cons_self)
        · rfl
      · exact h.1 y hy
/-- Nodes keep their paths, where all parents are nodes that keep theirs. -/
theorem path_keep {t t2 : Tr} (S : Nm → Prop) (hS : ∀ s, S s → hasT t2 s = hasT t s ∧ parT t2 s = parT t s ∧ (hasT t s = true → S (parT t s))) : ∀ k s, S s → pathN t2 k s = pathN t k s
  | 0, _, _ => rfl
  | k + 1, s, h => by
    obtain ⟨h1, h2, h3⟩ := hS s h
    rw [pathN, pathN, h1, h2]
    by_cases hs : hasT t s = true
    · rw [if_pos hs, if_pos hs, path_keep S hS k _ (h3 hs)]
    · rw [if_neg hs, if_neg hs]
theorem pathN_mono (t : Tr) : ∀ k s, (pathN t k s).length ≤ (pathN t (k + 1) s).length
  | 0, _ => Nat.zero_le _
  | k + 1, s => by
    rw [pathN, pathN]
    by_cases hs : hasT t s = true
    · rw [if_pos hs, if_pos hs, List.length_cons, List.length_cons]
      have := pathN_mono t k (parT t s)
      omega
    · rw [if_neg hs, if_neg hs]
      exact Nat.le_refl _
section
variable {t : Tr} (h : WfT t)
include h
theorem WfT.par_ne {s n : Nm} (hn : hasT t n = false) (hn0 : n ≠ []) (hs : hasT t s = true) : parT t s ≠ n := by
  obtain ⟨e, he, rfl⟩ := has_iff.1 hs
  rw [h.par he]
  by_cases hr : e.1 = rootN
  · have := h.inj he h.root hr
    rw [this]
    exact hn0.symm
  · intro e1
    have := h.up e he hr
    rw [e1, hn] at this
    cases this
theorem WfT.ins {n p : Nm} (hn : hasT t n = false) (hn0 : n ≠ []) (hp : hasT t p = true) (hd : (pathT t p).length + 1 ≤ 8) : WfT (insT (n, p) t) ∧ (∀ s, s ≠ n → pathT (insT (n, p) t) s = pathT t s) ∧ pathT (insT (n, p) t) n = n :: pathT t p := by
  have hno : ∀ e ∈ t, e.1 ≠ n := fun e he e1 => by
    have := has_iff.2 ⟨e, he, e1⟩
    rw [hn] at this
    cases this
  have hpn : p ≠ n := fun e => by rw [e, hn] at hp; cases hp
  have hrise := insT_rise (x := (n, p)) h.rise hno
  have hh : ∀ s, s ≠ n → hasT (insT (n, p) t) s = hasT t s := fun s hs => by
    rw [Bool.eq_iff_iff, has_iff, has_iff]
    constructor
    · rintro ⟨e, he, h1⟩
      rcases insT_mem.1 he with rfl | he
      · exact absurd h1.symm hs
      · exact ⟨e, he, h1⟩
    · rintro ⟨e, he, h1⟩
      exact ⟨e, insT_mem.2 (.inr he), h1⟩
  have inj : ∀ {a b : Nm × Nm}, a ∈ insT (n, p) t → b ∈ insT (n, p) t → a.1 = b.1 → a = b := fun {a b} ha hb e => by
    rcases insT_mem.1 ha with rfl | ha <;> rcases insT_mem.1 hb with rfl | hb
    · rfl
    · exact absurd e.symm (hno b hb)
    · exact absurd e (hno a ha)
    · exact h.inj ha hb e
  have par : ∀ {e : Nm × Nm}, e ∈ insT (n, p) t → parT (insT (n, p) t) e.1 = e.2 := fun {e} he => by
    unfold parT
    cases hf : (insT (n, p) t).find? fun x => decide (x.1 = e.1) with
    | none =>
      rw [List.find?_eq_none] at hf
      exact absurd (decide_eq_true rfl) (hf e he)
    | some x =>
      have hk := List.find?_some hf
      rw [decide_eq_true_eq] at hk
      rw [inj (List.mem_of_find?_eq_some hf) he hk]
  have hpar : ∀ s, s ≠ n → parT (insT (n, p) t) s = parT t s := fun s hs => by
    by_cases hx : hasT t s = true
    · obtain ⟨e, he, rfl⟩ := has_iff.1 hx
      rw [par (insT_mem.2 (.inr he)), h.par he]
    · have hx2 : hasT t s = false := by simpa using hx
      rw [par_none hx2, par_none (by rw [hh s hs]; exact hx2)]
  have keep : ∀ k s, s ≠ n → pathN (insT (n, p) t) k s = pathN t k s := path_keep (fun s => s ≠ n) fun s hs => ⟨hh s hs, hpar s hs, fun hx => h.par_ne hn hn0 hx⟩
  have hnew : pathT (insT (n, p) t) n = n :: pathT t p := by
    have hx : hasT (insT (n, p) t) n = true := has_iff.2 ⟨_, insT_mem.2 (.inl rfl), rfl⟩
    have e1 : pathT (insT (n, p) t) n = n :: pathN t 8 p := by
      show pathN _ (8 + 1) n = _
      rw [pathN, if_pos hx, par (e := (n, p)) (insT_mem.2 (.inl rfl)), keep 8 p hpn]
    have e2 : (pathN t 8 p).length < 8 := by
      have h1 : (pathN t 8 p).length ≤ (pathN t 9 p).length := pathN_mono t 8 p
      have h2 : (pathN t 9 p).length + 1 ≤ 8 := hd
      omega
    rw [e1]
    unfold pathT
    rw [pathN_stop t 8 p e2 9 (by omega)]
  refine ⟨⟨hrise, insT_mem.2 (.inr h.root), fun e he => ?_, fun e he hr => ?_, fun e he => ?_⟩, fun s hs => keep 9 s hs, hnew⟩
  · rcases insT_mem.1 he with rfl | he
    · exact hn0
    · exact h.ne e he
  · rcases insT_mem.1 he with rfl | he
    · rw [hh _ hpn]; exact hp
    · have := h.up e he hr
      by_cases h2 : e.2 = n
      · exact has_iff.2 ⟨_, insT_mem.2 (.inl rfl), h2.symm⟩
      · rw [hh _ h2]; exact this
  · rcases insT_mem.1 he with rfl | he
    · simp only
      rw [hnew, List.length_cons]
      exact hd
    · show (pathN _ 9 e.1).length ≤ 8
      rw [keep 9 e.1 (hno e he)]
      exact h.deep e he
/-- A node that is no parent goes. -/
theorem WfT.rem {n : Nm} (hn : hasT t n = true) (hr : n ≠ rootN) (hc : childT t n = []) : WfT (t.filter fun e => decide (e.1 ≠ n)) ∧ ∀ s, hasT t s = true → s ≠ n → pathT (t.filter fun e => decide (e.1 ≠ n)) s = pathT t s := by
  have hm : ∀ {e}, e ∈ (t.filter fun e => decide (e.1 ≠ n)) ↔ e ∈ t ∧ e.1 ≠ n := by intro e; rw [List.mem_filter]; simp
  have hch : ∀ e ∈ t, e.1 ≠ rootN → e.2 ≠ n := fun e he hr e2 => by
    have : e.1 ∈ childT t n := by
      unfold childT
      exact List.mem_map.2 ⟨e, List.mem_filter.2 ⟨he, by simp [e2, hr]⟩, rfl⟩
    rw [hc] at this
    cases this
  have hh : ∀ s, s ≠ n → hasT (t.filter fun e => decide (e.1 ≠ n)) s = hasT t s := fun s hs => by
    rw [Bool.eq_iff_iff, has_iff, has_iff]
    constructor
    · rintro ⟨e, he, h1⟩
      exact ⟨e, (hm.1 he).1, h1⟩
    · rintro ⟨e, he, h1⟩
      exact ⟨e, hm.2 ⟨he, by rw [h1]; exact hs⟩, h1⟩
  have hrise : (t.filter fun e => decide (e.1 ≠ n)).Pairwise fun a b => Op.bytesLess a.1 b.1 = true := h.rise.filter _
  have hpar : ∀ s, s ≠ n → parT (t.filter fun e => decide (e.1 ≠ n)) s = parT t s := fun s hs => by
    unfold parT
    rw [List.find?_filter]
    have : (fun a : Nm × Nm => decide (decide (a.1 ≠ n) = true ∧ decide (a.1 = s) = true)) = fun a => decide (a.1 = s) := by
      funext a
      by_cases e : a.1 = s
      · rw [decide_eq_true e, decide_eq_true]
        exact ⟨decide_eq_true (by rw [e]; exact hs), rfl⟩
      · rw [decide_eq_false e, decide_eq_false]
        exact fun h => by cases h.2
    rw [this]
  have keep : ∀ k s, (s ≠ n ∧ (hasT t s = true ∨ s = [])) → pathN (t.filter fun e => decide (e.1 ≠ n)) k s = pathN t k s :=
    path_keep (fun s => s ≠ n ∧ (hasT t s = true ∨ s = [])) fun s ⟨hs, _⟩ => ⟨hh s hs, hpar s hs, fun hx => by
      obtain ⟨e, he, rfl⟩ := has_iff.1 hx
      rw [h.par he]
      by_cases h2 : e.1 = rootN
      · have := h.inj he h.root h2
        rw [this]
        simp only
        refine ⟨fun h0 => ?_, .inr trivial⟩
        obtain ⟨y, hy, hye⟩ := has_iff.1 hn
        exact h.ne y hy (hye.trans h0.symm)
      · exact ⟨hch e he h2, .inl (h.up e he h2)⟩⟩
  refine ⟨⟨hrise, hm.2 ⟨h.root, hr.symm⟩, fun e he => h.ne e (hm.1 he).1, fun e he hr2 => ?_, fun e he => ?_⟩, fun s hs hn => keep 9 s ⟨hn, .inl hs⟩⟩
  · rw [hh _ (hch e (hm.1 he).1 hr2)]
    exact h.up e (hm.1 he).1 hr2
  · show (pathN _ 9 e.1).length ≤ 8
    rw [keep 9 e.1 ⟨(hm.1 he).2, .inl (has_iff.2 ⟨e, (hm.1 he).1, rfl⟩)⟩]
    exact h.deep e (hm.1 he).1
end
end Trt
end Go.Proofs.Ytonhfddklkbnbaa
/- Trc: What Move makes of a tree; an act; conditions: none. -/
namespace Go.Proofs.Ytonhfddklkbnbaa
namespace Trt
open Go

def setP (t : Tr) (n p : Nm) : Tr := t.map fun e => if e.1 = n then (n, p) else e
def moveT (t : Tr) (n p : Nm) : Int × Tr :=
  if hasT t n = false ∨ hasT t p = false then (4, t) else if n = rootN then (1, t) else if n ∈ pathT t p then (8, t) else if (setP t n p).any (fun e => decide (8 < (pathT (setP t n p) e.1).length)) = true then (9, t) else (0, setP t n p)
/-- An act, by its kind. -/
def doT (rg : Bool) (t : Tr) (kind : Int) (n o : Nm) : Int × Tr := if kind % 4 = 2 then moveT t n o else if kind % 4 = 3 then removeT t n else createT rg t n o
theorem pathN_take (t : Tr) : ∀ j k s, j ≤ k → pathN t j s = (pathN t k s).take j
  | 0, _, _, _ => by rw [List.take_zero]; rfl
  | j + 1, 0, _, h => absurd h (Nat.not_succ_le_zero j)
  | j + 1, k + 1, s, h => by
    rw [pathN, pathN]
    by_cases hs : hasT t s = true
    · rw [if_pos hs, if_pos hs, List.take_succ_cons, pathN_take t j k _ (by omega)]
    · rw [if_neg hs, if_neg hs, List.take_nil]
theorem setP_keys (t : Tr) (n p : Nm) : (setP t n p).map (·.1) = t.map (·.1) := by
  unfold setP
  rw [List.map_map]
  refine List.map_congr_left fun e _ => ?_
  show (if e.1 = n then (n, p) else e).1 = e.1
  split
  · rename_i h; exact h.symm
  · rfl
theorem has_keys {t t2 : Tr} (h : t2.map (·.1) = t.map (·.1)) (s : Nm) : hasT t2 s = hasT t s := by
  have e1 : ∀ t : Tr, hasT t s = (t.map (·.1)).any fun x => decide (x = s) := fun t => by unfold hasT; rw [List.any_map]; rfl
  rw [e1, e1, h]
theorem setP_par (t : Tr) (n p : Nm) (hn : hasT t n = true) (s : Nm) : parT (setP t n p) s = if s = n then p else parT t s := by
  unfold parT setP
  rw [List.find?_map]
  have : ((fun e : Nm × Nm => decide (e.1 = s)) ∘ fun e => if e.1 = n then (n, p) else e) = fun e => decide (e.1 = s) := by
    funext e
    show decide ((if e.1 = n then (n, p) else e).1 = s) = decide (e.1 = s)
    split
    · rename_i h; rw [h]
    · rfl
  rw [this]
  cases hf : t.find? fun e => decide (e.1 = s) with
  | none =>
    rw [List.find?_eq_none] at hf
    by_cases hs : s = n
    · obtain ⟨e, he, hk⟩ := has_iff.1 hn
      exact absurd (decide_eq_true (hk.trans hs.symm)) (hf e he)
    · rw [if_neg hs]; rfl
  | some e =>
    have hk := List.find?_some hf
    rw [decide_eq_true_eq] at hk
    simp only [Option.map_some]
    by_cases hs : s = n
    · rw [if_pos hs, if_pos (hk.trans hs)]
    · rw [if_neg hs, if_neg fun h => hs (hk.symm.trans h)]
section
variable {t : Tr} (h : WfT t)
include h
omit h in
theorem set_hasT (n p s : Nm) : hasT (setP t n p) s = hasT t s := has_keys (setP_keys t n p) s
theorem WfT.set_keep {n p : Nm} (hn : hasT t n = true) : ∀ k s, ((hasT t s = true ∨ s = []) ∧ n ∉ pathT t s) → pathN (setP t n p) k s = pathN t k s :=
  path_keep (fun s => (hasT t s = true ∨ s = []) ∧ n ∉ pathT t s) fun s ⟨hs, hp⟩ => by
    have hsn : s ≠ n := by
      rintro rfl
      obtain ⟨e, he, rfl⟩ := has_iff.1 hn
      rw [h.path he] at hp
      exact hp List.mem_cons_self
    refine ⟨set_hasT n p s, by rw [setP_par t n p hn, if_neg hsn], fun hx => ?_⟩
    obtain ⟨e, he, rfl⟩ := has_iff.1 hx
    rw [h.path he] at hp
    rw [h.par he]
    refine ⟨?_, fun hm => hp (List.mem_cons_of_mem _ hm)⟩
    by_cases h2 : e.1 = rootN
    · rw [h.inj he h.root h2]
      exact .inr rfl
    · exact .inl (h.up e he h2)
/-- Where one is moved, all paths end. -/
theorem WfT.set_end {n p : Nm} (hn : hasT t n = true) (hp : hasT t p = true) (hc : n ∉ pathT t p) : ∀ m, ∀ e ∈ t, (pathT t e.1).length ≤ m → (pathN (setP t n p) (m + 9) e.1).length ≤ m + 8
  | 0, e, he, hl => by
    rw [h.path he, List.length_cons] at hl
    omega
  | m + 1, e, he, hl => by
    have hs : hasT (setP t n p) e.1 = true := by rw [set_hasT]; exact has_iff.2 ⟨e, he, rfl⟩
    rw [show m + 1 + 9 = (m + 9) + 1 by omega, pathN, if_pos hs, setP_par t n p hn, List.length_cons]
    by_cases h1 : e.1 = n
    · rw [if_pos h1, h.set_keep hn _ _ ⟨.inl hp, hc⟩]
      obtain ⟨x, hx, rfl⟩ := has_iff.1 hp
      have hd := h.deep x hx
      have : (pathN t (m + 9) x.1) = pathT t x.1 := pathN_stop t 9 x.1 (by unfold pathT at hd; omega) _ (by omega)
      rw [this]
      omega
    · rw [if_neg h1, h.par he]
      rw [h.path he, List.length_cons] at hl
      by_cases hx : hasT t e.2 = true
      · obtain ⟨x, hx, hxe⟩ := has_iff.1 hx
        rw [← hxe] at hl ⊢
        have := WfT.set_end hn hp hc m x hx (by omega)
        omega
      · have hx2 : hasT (setP t n p) e.2 = false := by rw [set_hasT]; simpa using hx
        rw [show m + 9 = (m + 8) + 1 by omega, pathN, if_neg (by rw [hx2]; decide)]
        simp
theorem WfT.set {n p : Nm} (_hn : hasT t n = true) (hp : hasT t p = true) (hr : n ≠ rootN) (hd : (setP t n p).any (fun e => decide (8 < (pathT (setP t n p) e.1).length)) = false) : WfT (setP t n p) := by
  rw [List.any_eq_false] at hd
  have hm : ∀ {e}, e ∈ setP t n p → ∃ x ∈ t, x.1 = e.1 ∧ (e = (n, p) ∨ e = x) := fun {e} he => by
    unfold setP at he
    obtain ⟨x, hx, rfl⟩ := List.mem_map.1 he
    refine ⟨x, hx, ?_⟩
    split
    · rename_i h1; exact ⟨h1, .inl rfl⟩
    · exact ⟨rfl, .inr rfl⟩
  refine ⟨?_, ?_, fun e he => ?_, fun e he hr2 => ?_, fun e he => ?_⟩
  · have h1 : (t.map (·.1)).Pairwise fun a b => Op.bytesLess a b = true := List.pairwise_map.2 h.rise
    rw [← setP_keys t n p] at h1
    exact List.pairwise_map.1 h1
  · unfold setP
    exact List.mem_map.2 ⟨_, h.root, by rw [if_neg fun e => hr e.symm]⟩
  · obtain ⟨x, hx, h1, -⟩ := hm he
    rw [← h1]
    exact h.ne x hx
  · obtain ⟨x, hx, h1, h2⟩ := hm he
    rw [set_hasT]
    rcases h2 with rfl | rfl
    · exact hp
    · exact h.up e hx hr2
  · have := hd e he
    simpa using this
end
theorem do_wfT {rg : Bool} {t : Tr} (h : WfT t) (kind : Int) {n : Nm} (hn0 : rg = true → n ≠ []) (o : Nm) : WfT (doT rg t kind n o).2 ∧ (doT rg t kind n o).2.length ≤ t.length + 1 := by
  unfold doT
  split
  · unfold moveT
    repeat' split
    all_goals first | exact ⟨h, Nat.le_succ _⟩ | skip
    rename_i h1 h2 h3 h4
    rw [not_or] at h1
    exact ⟨h.set (by simpa using h1.1) (by simpa using h1.2) h2 (by simpa using h4), by unfold setP; rw [List.length_map]; exact Nat.le_succ _⟩
  split
  · unfold removeT
    repeat' split
    all_goals first | exact ⟨h, Nat.le_succ _⟩ | skip
    rename_i h1 h2 h3
    exact ⟨(h.rem (by simpa using h1) h2 (by simpa using h3)).1, Nat.le_succ_of_le (List.length_filter_le _ _)⟩
  · unfold createT
    repeat' split
    all_goals first | exact ⟨h, Nat.le_succ _⟩ | skip
    rename_i h1 h2 h3 h4 h5
    exact ⟨(h.ins (p := o) (by simpa using h2) (hn0 (by simpa using h1)) (by simpa using h3) (by omega)).1, by rw [insT_len]; exact Nat.le_refl _⟩
end Trt
end Go.Proofs.Ytonhfddklkbnbaa
/- Trd: None is lost: what goes can be made again; the children of all; what is below; conditions: none. -/
namespace Go.Proofs.Ytonhfddklkbnbaa
namespace Trt
open Go

theorem rise_unique : ∀ {t u : Tr}, t.Pairwise (fun a b => Op.bytesLess a.1 b.1 = true) → u.Pairwise (fun a b => Op.bytesLess a.1 b.1 = true) → (∀ e, e ∈ t ↔ e ∈ u) → t = u
  | [], [], _, _, _ => rfl
  | [], b :: u, _, _, h => absurd ((h b).2 List.mem_cons_self) List.not_mem_nil
  | a :: t, [], _, _, h => absurd ((h a).1 List.mem_cons_self) List.not_mem_nil
  | a :: t, b :: u, ht, hu, h => by
    rw [List.pairwise_cons] at ht hu
    have hab : a = b := by
      rcases List.mem_cons.1 ((h a).1 List.mem_cons_self) with e | ha
      · exact e
      · rcases List.mem_cons.1 ((h b).2 List.mem_cons_self) with e | hb
        · exact e.symm
        · have h1 := hu.1 a ha
          have h2 := ht.1 b hb
          rw [Bord.bl_asymm _ _ h1] at h2
          cases h2
    subst hab
    congr 1
    refine rise_unique ht.2 hu.2 fun e => ?_
    have hne : ∀ {l : Tr}, (∀ x ∈ l, Op.bytesLess a.1 x.1 = true) → a ∉ l := fun hl hm => by
      have := hl a hm
      rw [Bord.bl_irrefl] at this
      cases this
    constructor
    · intro he
      rcases List.mem_cons.1 ((h e).1 (List.mem_cons_of_mem _ he)) with rfl | h1
      · exact absurd he (hne ht.1)
      · exact h1
    · intro he
      rcases List.mem_cons.1 ((h e).2 (List.mem_cons_of_mem _ he)) with rfl | h1
      · exact absurd he (hne hu.1)
      · exact h1
/-- All nodes but the root have labels. -/
def LabT (rg : Nm → Bool) (t : Tr) : Prop := ∀ e ∈ t, e.1 ≠ rootN → rg e.1 = true
theorem lab_do {rg : Nm → Bool} {t : Tr} (h : LabT rg t) (kind : Int) (n o : Nm) : LabT rg (doT (rg n) t kind n o).2 := by
  unfold doT
  split
  · unfold moveT
    repeat' split
    all_goals first | exact h | skip
    intro e he hr
    unfold setP at he
    obtain ⟨x, hx, rfl⟩ := List.mem_map.1 he
    by_cases hxn : x.1 = n
    · rw [if_pos hxn] at hr ⊢
      rw [← hxn] at hr ⊢
      exact h x hx hr
    · rw [if_neg hxn] at hr ⊢
      exact h x hx hr
  split
  · unfold removeT
    repeat' split
    all_goals first | exact h | skip
    exact fun e he hr => h e (List.mem_filter.1 he).1 hr
  · unfold createT
    repeat' split
    all_goals first | exact h | skip
    rename_i h1 _ _ _ _
    intro e he hr
    rcases insT_mem.1 he with rfl | he
    · simpa using h1
    · exact h e he hr
section
variable {t : Tr} (h : WfT t)
include h
/-- A node that can be removed can be made again where it was. -/
theorem WfT.again {n : Nm} (h200 : t.length ≤ 200) (hok : (removeT t n).1 = 0) : createT true (removeT t n).2 n (parT t n) = (0, t) ∧ hasT (removeT t n).2 n = false := by
  unfold removeT at hok ⊢
  by_cases h1 : hasT t n = false
  · rw [if_pos h1] at hok; simp at hok
  rw [if_neg h1] at hok ⊢
  by_cases h2 : n = rootN
  · rw [if_pos h2] at hok; simp at hok
  rw [if_neg h2] at hok ⊢
  by_cases h3 : childT t n ≠ []
  · rw [if_pos h3] at hok; simp at hok
  rw [if_neg h3]
  have hn : hasT t n = true := by simpa using h1
  obtain ⟨hw, hk⟩ := h.rem hn h2 (by simpa using h3)
  obtain ⟨e, he, rfl⟩ := has_iff.1 hn
  have hp := h.path he
  have hnd := h.nodup _ e he (Nat.le_refl _)
  rw [hp, List.nodup_cons] at hnd
  have hpp := h.up e he h2
  obtain ⟨x, hx, hxe⟩ := has_iff.1 hpp
  have hne : e.2 ≠ e.1 := fun e1 => hnd.1 (by rw [← e1, ← hxe, h.path hx]; exact List.mem_cons_self)
  have hh0 : hasT (t.filter fun x => decide (x.1 ≠ e.1)) e.1 = false := by
    cases hf : hasT (t.filter fun x => decide (x.1 ≠ e.1)) e.1
    · rfl
    · obtain ⟨y, hy, hye⟩ := has_iff.1 hf
      have := (List.mem_filter.1 hy).2
      rw [decide_eq_true_eq] at this
      exact absurd hye this
  have hhp : hasT (t.filter fun x => decide (x.1 ≠ e.1)) e.2 = true := has_iff.2 ⟨x, List.mem_filter.2 ⟨hx, by rw [hxe]; exact decide_eq_true hne⟩, hxe⟩
  have hd := h.deep e he
  rw [hp, List.length_cons] at hd
  have hlt : (t.filter fun x => decide (x.1 ≠ e.1)).length < t.length := by
    refine Nat.lt_of_le_of_ne (List.length_filter_le _ _) fun e1 => ?_
    have := List.length_filter_eq_length_iff.1 e1 e he
    simp at this
  refine ⟨?_, hh0⟩
  rw [h.par he]
  unfold createT
  simp only
  rw [if_neg (by decide), if_neg (by rw [hh0]; decide), if_neg (by rw [hhp]; decide), if_neg (by rw [hk _ hpp hne]; omega), if_neg (by omega)]
  congr 1
  refine rise_unique (insT_rise hw.rise fun y hy => by have := (List.mem_filter.1 hy).2; simpa using this) h.rise fun y => ?_
  rw [insT_mem, List.mem_filter]
  constructor
  · rintro (rfl | ⟨hy, -⟩)
    · exact he
    · exact hy
  · intro hy
    by_cases hye : y.1 = e.1
    · exact .inl (h.inj hy he hye)
    · exact .inr ⟨hy, decide_eq_true hye⟩
/-- The children of all are all nodes but the root. -/
theorem WfT.count : (t.map fun s => (childT t s.1).length).sum + 1 = t.length := by
  have hone : ∀ (names : Tr) (k : Nm), names.Pairwise (fun a b => Op.bytesLess a.1 b.1 = true) → (∃ x ∈ names, x.1 = k) → (names.map fun s => if k = s.1 then 1 else 0).sum = 1 := by
    intro names
    induction names with
    | nil => rintro k - ⟨x, hx, -⟩; cases hx
    | cons a l ih =>
      rintro k hp ⟨x, hx, hk⟩
      rw [List.pairwise_cons] at hp
      have hz : ∀ (m : Tr), (∀ y ∈ m, k ≠ y.1) → (m.map fun s => if k = s.1 then 1 else 0).sum = 0 := by
        intro m
        induction m with
        | nil => exact fun _ => rfl
        | cons b m ihm =>
          intro hm
          rw [List.map_cons, List.sum_cons, if_neg (hm b List.mem_cons_self), ihm fun y hy => hm y (List.mem_cons_of_mem _ hy)]
      rw [List.map_cons, List.sum_cons]
      by_cases ha : k = a.1
      · rw [if_pos ha, hz l fun y hy e => by
          have := hp.1 y hy
          rw [← e, ← ha, Bord.bl_irrefl] at this
          cases this]
      · rw [if_neg ha, Nat.zero_add]
        rcases List.mem_cons.1 hx with rfl | hx
        · exact absurd hk.symm ha
        · exact ih k hp.2 ⟨x, hx, hk⟩
  have hsum : ∀ l : Tr, (∀ e ∈ l, ∃ x ∈ t, x.1 = e.2) → (t.map fun s => (l.filter fun e => decide (e.2 = s.1)).length).sum = l.length := by
    intro l
    induction l with
    | nil =>
      intro _
      have : ∀ m : Tr, (m.map fun _ => 0).sum = 0 := fun m => by induction m with | nil => rfl | cons b m ih => rw [List.map_cons, List.sum_cons, ih]
      exact this t
    | cons e l ih =>
      intro hl
      have hs : ∀ m : Tr, (m.map fun s => ((e :: l).filter fun e => decide (e.2 = s.1)).length).sum = (m.map fun s => if e.2 = s.1 then 1 else 0).sum + (m.map fun s => (l.filter fun e => decide (e.2 = s.1)).length).sum := by
        intro m
        induction m with
        | nil => rfl
        | cons b m ihm =>
          rw [List.map_cons, List.map_cons, List.map_cons, List.sum_cons, List.sum_cons, List.sum_cons, ihm, List.filter_cons]
          by_cases hb : e.2 = b.1
          · rw [if_pos (decide_eq_true hb), if_pos hb, List.length_cons]; omega
          · rw [if_neg (by rw [decide_eq_false hb]; decide), if_neg hb]; omega
      rw [hs, hone t e.2 h.rise (hl e List.mem_cons_self), ih fun x hx => hl x (List.mem_cons_of_mem _ hx), List.length_cons]
      omega
  have hc : (t.map fun s => (childT t s.1).length).sum = (t.filter fun e => decide (e.1 ≠ rootN)).length := by
    rw [← hsum (t.filter fun e => decide (e.1 ≠ rootN)) fun e he => by
      have h1 := List.mem_filter.1 he
      exact has_iff.1 (h.up e h1.1 (by simpa using h1.2))]
    congr 1
    refine List.map_congr_left fun s _ => ?_
    unfold childT
    rw [List.length_map, List.filter_filter]
  rw [hc]
  have hr : ∀ m : Tr, m.Pairwise (fun a b => Op.bytesLess a.1 b.1 = true) → (∃ x ∈ m, x.1 = rootN) → (m.filter fun e => decide (e.1 ≠ rootN)).length + 1 = m.length := by
    intro m
    induction m with
    | nil => rintro - ⟨x, hx, -⟩; cases hx
    | cons a m ih =>
      rintro hp ⟨x, hx, hk⟩
      rw [List.pairwise_cons] at hp
      rw [List.filter_cons]
      by_cases ha : a.1 = rootN
      · rw [if_neg (by simp [ha]), List.length_cons]
        congr 1
        rw [List.length_filter_eq_length_iff]
        intro y hy
        refine decide_eq_true fun e => ?_
        have := hp.1 y hy
        rw [ha, e, Bord.bl_irrefl] at this
        cases this
      · rw [if_pos (decide_eq_true ha), List.length_cons, List.length_cons, ih hp.2]
        rcases List.mem_cons.1 hx with rfl | hx
        · exact absurd hk ha
        · exact ⟨x, hx, hk⟩
  exact hr t h.rise ⟨_, h.root, rfl⟩
omit h in
/-- A node is below another one just if that is on its path. -/
theorem below_iff {a b : Nm} (ha : hasT t a = true) : a ∈ belowT t b ↔ b ∈ pathT t a := by
  unfold belowT
  rw [List.mem_map]
  constructor
  · rintro ⟨e, he, rfl⟩
    exact of_decide_eq_true (List.mem_filter.1 he).2
  · intro hb
    obtain ⟨e, he, rfl⟩ := has_iff.1 ha
    exact ⟨e, List.mem_filter.2 ⟨he, decide_eq_true hb⟩, rfl⟩
end
end Trt
end Go.Proofs.Ytonhfddklkbnbaa
