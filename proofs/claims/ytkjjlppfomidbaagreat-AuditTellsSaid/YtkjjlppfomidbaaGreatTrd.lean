/- What Create and Remove make of a tree; conditions: none. -/
import Derived.Test.YtkjjlppfomidbaaGreatTxs
/- Trb: What Create and Remove make of a tree; conditions: none. -/
namespace Go.Proofs.YtkjjlppfomidbaaGreat
namespace Trt
open Go
def insT (x : Nm × Nm) : Tr → Tr
  | [] => [x]
  | e :: t => if Op.bytesLess x.1 e.1 = true then x :: e :: t else e :: insT x t
def createT (rg : Bool) (t : Tr) (name parent : Nm) : Int × Tr :=
  if rg = false then (1, t) else if hasT t name = true then (5, t) else if hasT t parent = false then (4, t) else if 8 < (pathT t parent).length + 1 then (9, t) else if 200 < t.length + 1 then (3, t) else (0, insT (name, parent) t)
def removeT (t : Tr) (name : Nm) : Int × Tr :=
  if hasT t name = false then (4, t) else if name = rootN then (1, t) else if childT t name ≠ [] then (10, t) else (0, t.filter fun e => decide (e.1 ≠ name))
theorem insT_mem {x y : Nm × Nm} : ∀ {t : Tr}, y ∈ insT x t ↔ y = x ∨ y ∈ t
  | [] => by simp [insT]
  | e :: t => by
    unfold insT
    split
    · exact List.mem_cons
    · rw [List.mem_cons, insT_mem, List.mem_cons]
      constructor
      · rintro (h | h | h)
        · exact .inr (.inl h)
        · exact .inl h
        · exact .inr (.inr h)
      · rintro (h | h | h)
        · exact .inr (.inl h)
        · exact .inl h
        · exact .inr (.inr h)
theorem insT_len {x : Nm × Nm} : ∀ {t : Tr}, (insT x t).length = t.length + 1
  | [] => rfl
  | e :: t => by
    unfold insT
    split
    · rfl
    · rw [List.length_cons, insT_len, List.length_cons]
theorem insT_rise {x : Nm × Nm} : ∀ {t : Tr}, t.Pairwise (fun a b => Op.bytesLess a.1 b.1 = true) → (∀ e ∈ t, e.1 ≠ x.1) → (insT x t).Pairwise fun a b => Op.bytesLess a.1 b.1 = true
  | [], _, _ => List.pairwise_singleton _ _
  | e :: t, h, hn => by
    rw [List.pairwise_cons] at h
    unfold insT
    split
    · rename_i hx
      refine List.pairwise_cons.2 ⟨fun y hy => ?_, List.pairwise_cons.2 h⟩
      rcases List.mem_cons.1 hy with rfl | hy
      · exact hx
      · exact Bord.bl_trans _ _ _ hx (h.1 y hy)
    · rename_i hx
      refine List.pairwise_cons.2 ⟨fun y hy => ?_, insT_rise h.2 fun y hy => hn y (List.mem_cons_of_mem _ hy)⟩
      rcases insT_mem.1 hy with rfl | hy
      · cases hl : Op.bytesLess e.1 y.1
        · exact absurd (Bord.bl_total _ _ hl (by simpa using hx)) (hn e List.mem_cons_self)
        · rfl
      · exact h.1 y hy
theorem path_keep {t t2 : Tr} (S : Nm → Prop) (hS : ∀ s, S s → hasT t2 s = hasT t s ∧ parT t2 s = parT t s ∧ (hasT t s = true → S (parT t s))) : ∀ k s, S s → pathN t2 k s = pathN t k s
  | 0, _, _ => rfl
  | k + 1, s, h => by
    obtain ⟨h1, h2, h3⟩ := hS s h
    rw [pathN, pathN, h1, h2]
    by_cases hs : hasT t s = true
    · rw [if_pos hs, if_pos hs, path_keep S hS k _ (h3 hs)]
    · rw [if_neg hs, if_neg hs]
theorem pathN_mono (t : Tr) : ∀ k s, (pathN t k s).length ≤ (pathN t (k + 1) s).length
  | 0, _ => Nat.zero_le _
  | k + 1, s => by
    rw [pathN, pathN]
    by_cases hs : hasT t s = true
    · rw [if_pos hs, if_pos hs, List.length_cons, List.length_cons]
      have := pathN_mono t k (parT t s)
      omega
    · rw [if_neg hs, if_neg hs]
      exact Nat.le_refl _
section
variable {t : Tr} (h : WfT t)
include h
theorem WfT.par_ne {s n : Nm} (hn : hasT t n = false) (hn0 : n ≠ []) (hs : hasT t s = true) : parT t s ≠ n := by
  obtain ⟨e, he, rfl⟩ := has_iff.1 hs
  rw [h.par he]
  by_cases hr : e.1 = rootN
  · have := h.inj he h.root hr
    rw [this]
    exact hn0.symm
  · intro e1
    have := h.up e he hr
    rw [e1, hn] at this
    cases this
theorem WfT.ins {n p : Nm} (hn : hasT t n = false) (hn0 : n ≠ []) (hp : hasT t p = true) (hd : (pathT t p).length + 1 ≤ 8) : WfT (insT (n, p) t) ∧ (∀ s, s ≠ n → pathT (insT (n, p) t) s = pathT t s) ∧ pathT (insT (n, p) t) n = n :: pathT t p := by
  have hno : ∀ e ∈ t, e.1 ≠ n := fun e he e1 => by
    have := has_iff.2 ⟨e, he, e1⟩
    rw [hn] at this
    cases this
  have hpn : p ≠ n := fun e => by rw [e, hn] at hp; cases hp
  have hrise := insT_rise (x := (n, p)) h.rise hno
  have hh : ∀ s, s ≠ n → hasT (insT (n, p) t) s = hasT t s := fun s hs => by
    rw [Bool.eq_iff_iff, has_iff, has_iff]
    constructor
    · rintro ⟨e, he, h1⟩
      rcases insT_mem.1 he with rfl | he
      · exact absurd h1.symm hs
      · exact ⟨e, he, h1⟩
    · rintro ⟨e, he, h1⟩
      exact ⟨e, insT_mem.2 (.inr he), h1⟩
  have inj : ∀ {a b : Nm × Nm}, a ∈ insT (n, p) t → b ∈ insT (n, p) t → a.1 = b.1 → a = b := fun {a b} ha hb e => by
    rcases insT_mem.1 ha with rfl | ha <;> rcases insT_mem.1 hb with rfl | hb
    · rfl
    · exact absurd e.symm (hno b hb)
    · exact absurd e (hno a ha)
    · exact h.inj ha hb e
  have par : ∀ {e : Nm × Nm}, e ∈ insT (n, p) t → parT (insT (n, p) t) e.1 = e.2 := fun {e} he => by
    unfold parT
    cases hf : (insT (n, p) t).find? fun x => decide (x.1 = e.1) with
    | none =>
      rw [List.find?_eq_none] at hf
      exact absurd (decide_eq_true rfl) (hf e he)
    | some x =>
      have hk := List.find?_some hf
      rw [decide_eq_true_eq] at hk
      rw [inj (List.mem_of_find?_eq_some hf) he hk]
  have hpar : ∀ s, s ≠ n → parT (insT (n, p) t) s = parT t s := fun s hs => by
    by_cases hx : hasT t s = true
    · obtain ⟨e, he, rfl⟩ := has_iff.1 hx
      rw [par (insT_mem.2 (.inr he)), h.par he]
    · have hx2 : hasT t s = false := by simpa using hx
      rw [par_none hx2, par_none (by rw [hh s hs]; exact hx2)]
  have keep : ∀ k s, s ≠ n → pathN (insT (n, p) t) k s = pathN t k s := path_keep (fun s => s ≠ n) fun s hs => ⟨hh s hs, hpar s hs, fun hx => h.par_ne hn hn0 hx⟩
  have hnew : pathT (insT (n, p) t) n = n :: pathT t p := by
    have hx : hasT (insT (n, p) t) n = true := has_iff.2 ⟨_, insT_mem.2 (.inl rfl), rfl⟩
    have e1 : pathT (insT (n, p) t) n = n :: pathN t 8 p := by
      show pathN _ (8 + 1) n = _
      rw [pathN, if_pos hx, par (e := (n, p)) (insT_mem.2 (.inl rfl)), keep 8 p hpn]
    have e2 : (pathN t 8 p).length < 8 := by
      have h1 : (pathN t 8 p).length ≤ (pathN t 9 p).length := pathN_mono t 8 p
      have h2 : (pathN t 9 p).length + 1 ≤ 8 := hd
      omega
    rw [e1]
    unfold pathT
    rw [pathN_stop t 8 p e2 9 (by omega)]
  refine ⟨⟨hrise, insT_mem.2 (.inr h.root), fun e he => ?_, fun e he hr => ?_, fun e he => ?_⟩, fun s hs => keep 9 s hs, hnew⟩
  · rcases insT_mem.1 he with rfl | he
    · exact hn0
    · exact h.ne e he
  · rcases insT_mem.1 he with rfl | he
    · rw [hh _ hpn]; exact hp
    · have := h.up e he hr
      by_cases h2 : e.2 = n
      · exact has_iff.2 ⟨_, insT_mem.2 (.inl rfl), h2.symm⟩
      · rw [hh _ h2]; exact this
  · rcases insT_mem.1 he with rfl | he
    · simp only
      rw [hnew, List.length_cons]
      exact hd
    · show (pathN _ 9 e.1).length ≤ 8
      rw [keep 9 e.1 (hno e he)]
      exact h.deep e he
theorem WfT.rem {n : Nm} (hn : hasT t n = true) (hr : n ≠ rootN) (hc : childT t n = []) : WfT (t.filter fun e => decide (e.1 ≠ n)) ∧ ∀ s, hasT t s = true → s ≠ n → pathT (t.filter fun e => decide (e.1 ≠ n)) s = pathT t s := by
  have hm : ∀ {e}, e ∈ (t.filter fun e => decide (e.1 ≠ n)) ↔ e ∈ t ∧ e.1 ≠ n := by intro e; rw [List.mem_filter]; simp
  have hch : ∀ e ∈ t, e.1 ≠ rootN → e.2 ≠ n := fun e he hr e2 => by
    have : e.1 ∈ childT t n := by
      unfold childT
      exact List.mem_map.2 ⟨e, List.mem_filter.2 ⟨he, by simp [e2, hr]⟩, rfl⟩
    rw [hc] at this
    cases this
  have hh : ∀ s, s ≠ n → hasT (t.filter fun e => decide (e.1 ≠ n)) s = hasT t s := fun s hs => by
    rw [Bool.eq_iff_iff, has_iff, has_iff]
    constructor
    · rintro ⟨e, he, h1⟩
      exact ⟨e, (hm.1 he).1, h1⟩
    · rintro ⟨e, he, h1⟩
      exact ⟨e, hm.2 ⟨he, by rw [h1]; exact hs⟩, h1⟩
  have hrise : (t.filter fun e => decide (e.1 ≠ n)).Pairwise fun a b => Op.bytesLess a.1 b.1 = true := h.rise.filter _
  have hpar : ∀ s, s ≠ n → parT (t.filter fun e => decide (e.1 ≠ n)) s = parT t s := fun s hs => by
    unfold parT
    rw [List.find?_filter]
    have : (fun a : Nm × Nm => decide (decide (a.1 ≠ n) = true ∧ decide (a.1 = s) = true)) = fun a => decide (a.1 = s) := by
      funext a
      by_cases e : a.1 = s
      · rw [decide_eq_true e, decide_eq_true]
        exact ⟨decide_eq_true (by rw [e]; exact hs), rfl⟩
      · rw [decide_eq_false e, decide_eq_false]
        exact fun h => by cases h.2
    rw [this]
  have keep : ∀ k s, (s ≠ n ∧ (hasT t s = true ∨ s = [])) → pathN (t.filter fun e => decide (e.1 ≠ n)) k s = pathN t k s :=
    path_keep (fun s => s ≠ n ∧ (hasT t s = true ∨ s = [])) fun s ⟨hs, _⟩ => ⟨hh s hs, hpar s hs, fun hx => by
      obtain ⟨e, he, rfl⟩ := has_iff.1 hx
      rw [h.par he]
      by_cases h2 : e.1 = rootN
      · have := h.inj he h.root h2
        rw [this]
        simp only
        refine ⟨fun h0 => ?_, .inr trivial⟩
        obtain ⟨y, hy, hye⟩ := has_iff.1 hn
        exact h.ne y hy (hye.trans h0.symm)
      · exact ⟨hch e he h2, .inl (h.up e he h2)⟩⟩
  refine ⟨⟨hrise, hm.2 ⟨h.root, hr.symm⟩, fun e he => h.ne e (hm.1 he).1, fun e he hr2 => ?_, fun e he => ?_⟩, fun s hs hn => keep 9 s ⟨hn, .inl hs⟩⟩
  · rw [hh _ (hch e (hm.1 he).1 hr2)]
    exact h.up e (hm.1 he).1 hr2
  · show (pathN _ 9 e.1).length ≤ 8
    rw [keep 9 e.1 ⟨(hm.1 he).2, .inl (has_iff.2 ⟨e, (hm.1 he).1, rfl⟩)⟩]
    exact h.deep e (hm.1 he).1
end
end Trt
end Go.Proofs.YtkjjlppfomidbaaGreat
/- Trc: What Move makes of a tree; an act; conditions: none. -/
namespace Go.Proofs.YtkjjlppfomidbaaGreat
namespace Trt
open Go
def setP (t : Tr) (n p : Nm) : Tr := t.map fun e => if e.1 = n then (n, p) else e
def moveT (t : Tr) (n p : Nm) : Int × Tr :=
  if hasT t n = false ∨ hasT t p = false then (4, t) else if n = rootN then (1, t) else if n ∈ pathT t p then (8, t) else if (setP t n p).any (fun e => decide (8 < (pathT (setP t n p) e.1).length)) = true then (9, t) else (0, setP t n p)
def doT (rg : Bool) (t : Tr) (kind : Int) (n o : Nm) : Int × Tr := if kind % 4 = 2 then moveT t n o else if kind % 4 = 3 then removeT t n else createT rg t n o
theorem pathN_take (t : Tr) : ∀ j k s, j ≤ k → pathN t j s = (pathN t k s).take j
  | 0, _, _, _ => by rw [List.take_zero]; rfl
  | j + 1, 0, _, h => absurd h (Nat.not_succ_le_zero j)
  | j + 1, k + 1, s, h => by
    rw [pathN, pathN]
    by_cases hs : hasT t s = true
    · rw [if_pos hs, if_pos hs, List.take_succ_cons, pathN_take t j k _ (by omega)]
    · rw [if_neg hs, if_neg hs, List.take_nil]
theorem setP_keys (t : Tr) (n p : Nm) : (setP t n p).map (·.1) = t.map (·.1) := by
  unfold setP
  rw [List.map_map]
  refine List.map_congr_left fun e _ => ?_
  show (if e.1 = n then (n, p) else e).1 = e.1
  split
  · rename_i h; exact h.symm
  · rfl
theorem has_keys {t t2 : Tr} (h : t2.map (·.1) = t.map (·.1)) (s : Nm) : hasT t2 s = hasT t s := by
  have e1 : ∀ t : Tr, hasT t s = (t.map (·.1)).any fun x => decide (x = s) := fun t => by unfold hasT; rw [List.any_map]; rfl
  rw [e1, e1, h]
theorem setP_par (t : Tr) (n p : Nm) (hn : hasT t n = true) (s : Nm) : parT (setP t n p) s = if s = n then p else parT t s := by
  unfold parT setP
  rw [List.find?_map]
  have : ((fun e : Nm × Nm => decide (e.1 = s)) ∘ fun e => if e.1 = n then (n, p) else e) = fun e => decide (e.1 = s) := by
    funext e
    show decide ((if e.1 = n then (n, p) else e).1 = s) = decide (e.1 = s)
    split
    · rename_i h; rw [h]
    · rfl
  rw [this]
  cases hf : t.find? fun e => decide (e.1 = s) with
  | none =>
    rw [List.find?_eq_none] at hf
    by_cases hs : s = n
    · obtain ⟨e, he, hk⟩ := has_iff.1 hn
      exact absurd (decide_eq_true (hk.trans hs.symm)) (hf e he)
    · rw [if_neg hs]; rfl
  | some e =>
    have hk := List.find?_some hf
    rw [decide_eq_true_eq] at hk
    simp only [Option.map_some]
    by_cases hs : s = n
    · rw [if_pos hs, if_pos (hk.trans hs)]
    · rw [if_neg hs, if_neg fun h => hs (hk.symm.trans h)]
section
variable {t : Tr} (h : WfT t)
include h
omit h in
theorem set_hasT (n p s : Nm) : hasT (setP t n p) s = hasT t s := has_keys (setP_keys t n p) s
theorem WfT.set_keep {n p : Nm} (hn : hasT t n = true) : ∀ k s, ((hasT t s = true ∨ s = []) ∧ n ∉ pathT t s) → pathN (setP t n p) k s = pathN t k s :=
  path_keep (fun s => (hasT t s = true ∨ s = []) ∧ n ∉ pathT t s) fun s ⟨hs, hp⟩ => by
    have hsn : s ≠ n := by
      rintro rfl
      obtain ⟨e, he, rfl⟩ := has_iff.1 hn
      rw [h.path he] at hp
      exact hp List.mem_cons_self
    refine ⟨set_hasT n p s, by rw [setP_par t n p hn, if_neg hsn], fun hx => ?_⟩
    obtain ⟨e, he, rfl⟩ := has_iff.1 hx
    rw [h.path he] at hp
    rw [h.par he]
    refine ⟨?_, fun hm => hp (List.mem_cons_of_mem _ hm)⟩
    by_cases h2 : e.1 = rootN
    · rw [h.inj he h.root h2]
      exact .inr rfl
    · exact .inl (h.up e he h2)
theorem WfT.set_end {n p : Nm} (hn : hasT t n = true) (hp : hasT t p = true) (hc : n ∉ pathT t p) : ∀ m, ∀ e ∈ t, (pathT t e.1).length ≤ m → (pathN (setP t n p) (m + 9) e.1).length ≤ m + 8
  | 0, e, he, hl => by
    rw [h.path he, List.length_cons] at hl
    omega
  | m + 1, e, he, hl => by
    have hs : hasT (setP t n p) e.1 = true := by rw [set_hasT]; exact has_iff.2 ⟨e, he, rfl⟩
    rw [show m + 1 + 9 = (m + 9) + 1 by omega, pathN, if_pos hs, setP_par t n p hn, List.length_cons]
    by_cases h1 : e.1 = n
    · rw [if_pos h1, h.set_keep hn _ _ ⟨.inl hp, hc⟩]
      obtain ⟨x, hx, rfl⟩ := has_iff.1 hp
      have hd := h.deep x hx
      have : (pathN t (m + 9) x.1) = pathT t x.1 := pathN_stop t 9 x.1 (by unfold pathT at hd; omega) _ (by omega)
      rw [this]
      omega
    · rw [if_neg h1, h.par he]
      rw [h.path he, List.length_cons] at hl
      by_cases hx : hasT t e.2 = true
      · obtain ⟨x, hx, hxe⟩ := has_iff.1 hx
        rw [← hxe] at hl ⊢
        have := WfT.set_end hn hp hc m x hx (by omega)
        omega
      · have hx2 : hasT (setP t n p) e.2 = false := by rw [set_hasT]; simpa using hx
        rw [show m + 9 = (m + 8) + 1 by omega, pathN, if_neg (by rw [hx2]; decide)]
        simp
theorem WfT.set {n p : Nm} (_hn : hasT t n = true) (hp : hasT t p = true) (hr : n ≠ rootN) (hd : (setP t n p).any (fun e => decide (8 < (pathT (setP t n p) e.1).length)) = false) : WfT (setP t n p) := by
  rw [List.any_eq_false] at hd
  have hm : ∀ {e}, e ∈ setP t n p → ∃ x ∈ t, x.1 = e.1 ∧ (e = (n, p) ∨ e = x) := fun {e} he => by
    unfold setP at he
    obtain ⟨x, hx, rfl⟩ := List.mem_map.1 he
    refine ⟨x, hx, ?_⟩
    split
    · rename_i h1; exact ⟨h1, .inl rfl⟩
    · exact ⟨rfl, .inr rfl⟩
  refine ⟨?_, ?_, fun e he => ?_, fun e he hr2 => ?_, fun e he => ?_⟩
  · have h1 : (t.map (·.1)).Pairwise fun a b => Op.bytesLess a b = true := List.pairwise_map.2 h.rise
    rw [← setP_keys t n p] at h1
    exact List.pairwise_map.1 h1
  · unfold setP
    exact List.mem_map.2 ⟨_, h.root, by rw [if_neg fun e => hr e.symm]⟩
  · obtain ⟨x, hx, h1, -⟩ := hm he
    rw [← h1]
    exact h.ne x hx
  · obtain ⟨x, hx, h1, h2⟩ := hm he
    rw [set_hasT]
    rcases h2 with rfl | rfl
    · exact hp
    · exact h.up e hx hr2
  · have := hd e he
    simpa using this
end
theorem do_wfT {rg : Bool} {t : Tr} (h : WfT t) (kind : Int) {n : Nm} (hn0 : rg = true → n ≠ []) (o : Nm) : WfT (doT rg t kind n o).2 ∧ (doT rg t kind n o).2.length ≤ t.length + 1 := by
  unfold doT
  split
  · unfold moveT
    repeat' split
    all_goals first | exact ⟨h, Nat.le_succ _⟩ | skip
    rename_i h1 h2 h3 h4
    rw [not_or] at h1
    exact ⟨h.set (by simpa using h1.1) (by simpa using h1.2) h2 (by simpa using h4), by unfold setP; rw [List.length_map]; exact Nat.le_succ _⟩
  split
  · unfold removeT
    repeat' split
    all_goals first | exact ⟨h, Nat.le_succ _⟩ | skip
    rename_i h1 h2 h3
    exact ⟨(h.rem (by simpa using h1) h2 (by simpa using h3)).1, Nat.le_succ_of_le (List.length_filter_le _ _)⟩
  · unfold createT
    repeat' split
    all_goals first | exact ⟨h, Nat.le_succ _⟩ | skip
    rename_i h1 h2 h3 h4 h5
    exact ⟨(h.ins (p := o) (by simpa using h2) (hn0 (by simpa using h1)) (by simpa using h3) (by omega)).1, by rw [insT_len]; exact Nat.le_refl _⟩
end Trt
end Go.Proofs.YtkjjlppfomidbaaGreat
/- Trd: None is lost: what goes can be made again; the children of all; what is below; conditions: none. -/
namespace Go.Proofs.YtkjjlppfomidbaaGreat
namespace Trt
open Go
def LabT (rg : Nm → Bool) (t : Tr) : Prop := ∀ e ∈ t, e.1 ≠ rootN → rg e.1 = true
theorem lab_do {rg : Nm → Bool} {t : Tr} (h : LabT rg t) (kind : Int) (n o : Nm) : LabT rg (doT (rg n) t kind n o).2 := by
  unfold doT
  split
  · unfold moveT
    repeat' split
    all_goals first | exact h | skip
    intro e he hr
    unfold setP at he
    obtain ⟨x, hx, rfl⟩ := List.mem_map.1 he
    by_cases hxn : x.1 = n
    · rw [if_pos hxn] at hr ⊢
      rw [← hxn] at hr ⊢
      exact h x hx hr
    · rw [if_neg hxn] at hr ⊢
      exact h x hx hr
  split
  · unfold removeT
    repeat' split
    all_goals first | exact h | skip
    exact fun e he hr => h e (List.mem_filter.1 he).1 hr
  · unfold createT
    repeat' split
    all_goals first | exact h | skip
    rename_i h1 _ _ _ _
    intro e he hr
    rcases insT_mem.1 he with rfl | he
    · simpa using h1
    · exact h e he hr
section
variable {t : Tr} (h : WfT t)
include h
end
end Trt
end Go.Proofs.YtkjjlppfomidbaaGreat
