/- What marks are: names, rising; what Mark and Clear make of them; conditions: none. -/
import Derived.Test.YtonhfddklkbnbaaTrd
namespace Go.Proofs.Ytonhfddklkbnbaa
namespace Mkt
open Go Trt

abbrev Mk := List Nm
abbrev RiseN (l : Mk) : Prop := l.Pairwise fun a b => Op.bytesLess a b = true
def insS (s : Nm) : Mk → Mk
  | [] => [s]
  | e :: l => if Op.bytesLess s e = true then s :: e :: l else e :: insS s l
def markL (l : Mk) (s : Nm) : Mk := if s ∈ l then l else insS s l
def marksL (l : Mk) (more : List Nm) : Mk := more.foldl markL l
def clearL (l : Mk) (s : Nm) : Mk × Int := if s ∈ l then (l.filter fun x => decide (x ≠ s), 0) else (l, 4)
theorem insS_mem {s y : Nm} : ∀ {l : Mk}, y ∈ insS s l ↔ y = s ∨ y ∈ l
  | [] => by simp [insS]
  | e :: l => by
    unfold insS
    split
    · exact List.mem_cons
    · rw [List.mem_cons, insS_mem, List.mem_cons]
      constructor
      · rintro (h | h | h)
        · exact .inr (.inl h)
        · exact .inl h
        · exact .inr (.inr h)
      · rintro (h | h | h)
        · exact .inr (.inl h)
        · exact .inl h
        · exact .inr (.inr h)
theorem insS_len {s : Nm} : ∀ {l : Mk}, (insS s l).length = l.length + 1
  | [] => rfl
  | e :: l => by
    unfold insS
    split
    · rfl
    · rw [List.length_cons, insS_len, List.length_cons]
theorem insS_rise {s : Nm} : ∀ {l : Mk}, RiseN l → s ∉ l → RiseN (insS s l)
  | [], _, _ => List.pairwise_singleton _ _
  | e :: l, h, hn => by
    have h0 := h
    unfold RiseN at h0
    rw [List.pairwise_cons] at h0
    unfold insS
    split
    · rename_i hx
      refine List.pairwise_cons.2 ⟨fun y hy => ?_, h⟩
      rcases List.mem_cons.1 hy with rfl | hy
      · exact hx
      · exact Bord.bl_trans _ _ _ hx (h0.1 y hy)
    · rename_i hx
      refine List.pairwise_cons.2 ⟨fun y hy => ?_, insS_rise h0.2 fun hy => hn (List.mem_cons_of_mem _ hy)⟩
      rcases insS_mem.1 hy with rfl | hy
      · cases hl : Op.bytesLess e y
        · exact absurd (Bord.bl_total _ _ hl (by simpa using hx) ▸ List.mem_cons_self) hn
        · rfl
      · exact h0.1 y hy
theorem insS_no {x : Nm} : ∀ {l : Mk}, (∀ e ∈ l, Op.bytesLess x e = false) → insS x l = l ++ [x]
  | [], _ => rfl
  | a :: l, h => by
    unfold insS
    rw [if_neg (by rw [h a List.mem_cons_self]; decide), insS_no fun e he => h e (List.mem_cons_of_mem _ he)]
    rfl
theorem insS_new {x e : Nm} (hx : Op.bytesLess x e = true) : ∀ {l : Mk}, (∀ e ∈ l, Op.bytesLess x e = false) → insS x (l ++ [e]) = l ++ [x] ++ [e]
  | [], _ => by
    show insS x [e] = _
    unfold insS
    rw [if_pos hx]
    rfl
  | a :: l, h => by
    show insS x (a :: (l ++ [e])) = _
    unfold insS
    rw [if_neg (by rw [h a List.mem_cons_self]; decide), insS_new hx fun e he => h e (List.mem_cons_of_mem _ he)]
    rfl
theorem insS_old {x e : Nm} : ∀ {l : Mk}, (∃ e ∈ l, Op.bytesLess x e = true) → insS x (l ++ [e]) = insS x l ++ [e]
  | [], h => by obtain ⟨_, h, _⟩ := h; cases h
  | a :: l, h => by
    show insS x (a :: (l ++ [e])) = _
    unfold insS
    by_cases ha : Op.bytesLess x a = true
    · rw [if_pos ha, if_pos ha]; rfl
    · rw [if_neg ha, if_neg ha, insS_old]
      · rfl
      · obtain ⟨y, hy, hb⟩ := h
        rcases List.mem_cons.1 hy with rfl | hy
        · exact absurd hb ha
        · exact ⟨y, hy, hb⟩
/-- What Mark has made of the first so many. -/
def InsS (x : Nm) (t : Mk) (i : Nat) (D : Bool) (out : Mk) : Prop :=
  (D = true ∧ (∃ e ∈ t.take i, Op.bytesLess x e = true) ∧ out = insS x (t.take i)) ∨ (D = false ∧ (∀ e ∈ t.take i, Op.bytesLess x e = false) ∧ out = t.take i)
theorem InsS.len {x : Nm} {t : Mk} {i : Nat} {D : Bool} {out : Mk} (h : InsS x t i D out) : out.length ≤ i + 1 := by
  have := List.length_take_le i t
  rcases h with ⟨-, -, rfl⟩ | ⟨-, -, rfl⟩
  · rw [insS_len]; omega
  · omega
theorem InsS.done {x : Nm} {t : Mk} {i : Nat} {out : Mk} {e : Nm} (h : InsS x t i true out) (he : t[i]? = some e) : InsS x t (i + 1) true (out ++ [e]) := by
  rcases h with ⟨-, h2, rfl⟩ | ⟨h1, -⟩
  · refine .inl ⟨rfl, ?_, ?_⟩
    · obtain ⟨y, hy, hb⟩ := h2
      exact ⟨y, by rw [List.take_add_one]; exact List.mem_append_left _ hy, hb⟩
    · rw [List.take_add_one, he]; exact (insS_old h2).symm
  · cases h1
theorem InsS.here {x : Nm} {t : Mk} {i : Nat} {out : Mk} {e : Nm} (h : InsS x t i false out) (he : t[i]? = some e) (hb : Op.bytesLess x e = true) : InsS x t (i + 1) true (out ++ [x] ++ [e]) := by
  rcases h with ⟨h1, -⟩ | ⟨-, h2, rfl⟩
  · cases h1
  · refine .inl ⟨rfl, ⟨e, by rw [List.take_add_one, he]; exact List.mem_append_right _ List.mem_cons_self, hb⟩, ?_⟩
    rw [List.take_add_one, he]
    exact (insS_new hb h2).symm
theorem InsS.next {x : Nm} {t : Mk} {i : Nat} {out : Mk} {e : Nm} (h : InsS x t i false out) (he : t[i]? = some e) (hb : Op.bytesLess x e = false) : InsS x t (i + 1) false (out ++ [e]) := by
  rcases h with ⟨h1, -⟩ | ⟨-, h2, rfl⟩
  · cases h1
  · refine .inr ⟨rfl, fun y hy => ?_, by rw [List.take_add_one, he]; rfl⟩
    rw [List.take_add_one, he] at hy
    rcases List.mem_append.1 hy with hy | hy
    · exact h2 y hy
    · cases List.mem_singleton.1 hy; exact hb
theorem InsS.end_t {x : Nm} {t out : Mk} (h : InsS x t t.length true out) : insS x t = out := by
  rcases h with ⟨-, -, rfl⟩ | ⟨h1, -⟩
  · rw [List.take_length]
  · cases h1
theorem InsS.end_f {x : Nm} {t out : Mk} (h : InsS x t t.length false out) : insS x t = out ++ [x] := by
  rcases h with ⟨h1, -⟩ | ⟨-, h2, rfl⟩
  · cases h1
  · rw [List.take_length] at h2 ⊢
    exact insS_no h2
theorem mark_mem {l : Mk} {s y : Nm} : y ∈ markL l s ↔ y = s ∨ y ∈ l := by
  unfold markL
  split
  · rename_i h
    exact ⟨.inr, fun h1 => h1.elim (fun e => e ▸ h) id⟩
  · exact insS_mem
theorem mark_len (l : Mk) (s : Nm) : (markL l s).length ≤ l.length + 1 := by
  unfold markL
  split
  · exact Nat.le_succ _
  · rw [insS_len]; exact Nat.le_refl _
theorem mark_rise {l : Mk} (h : RiseN l) (s : Nm) : RiseN (markL l s) := by
  unfold markL
  split
  · exact h
  · rename_i hs; exact insS_rise h hs
theorem marks_mem {y : Nm} : ∀ {more : List Nm} {l : Mk}, y ∈ marksL l more ↔ y ∈ more ∨ y ∈ l
  | [], l => by simp [marksL]
  | s :: more, l => by
    show y ∈ marksL (markL l s) more ↔ _
    rw [marks_mem, mark_mem, List.mem_cons]
    constructor
    · rintro (h | h | h)
      · exact .inl (.inr h)
      · exact .inl (.inl h)
      · exact .inr h
    · rintro ((h | h) | h)
      · exact .inr (.inl h)
      · exact .inl h
      · exact .inr (.inr h)
theorem marks_len : ∀ (more : List Nm) (l : Mk), (marksL l more).length ≤ l.length + more.length
  | [], l => by simp [marksL]
  | s :: more, l => by
    have h1 := marks_len more (markL l s)
    have h2 := mark_len l s
    show (marksL (markL l s) more).length ≤ _
    rw [List.length_cons]
    omega
theorem marks_rise : ∀ (more : List Nm) {l : Mk}, RiseN l → RiseN (marksL l more)
  | [], _, h => h
  | s :: more, _, h => marks_rise more (mark_rise h s)
theorem marks_take {more : List Nm} {l : Mk} {i : Nat} {s : Nm} (h : more[i]? = some s) : marksL l (more.take (i + 1)) = markL (marksL l (more.take i)) s := by
  unfold marksL
  rw [List.take_add_one, h, List.foldl_append]
  rfl
theorem clear_rise {l : Mk} (h : RiseN l) (s : Nm) : RiseN (clearL l s).1 := by
  unfold clearL
  split
  · exact h.filter _
  · exact h
theorem clear_mem {l : Mk} {s y : Nm} (h : y ∈ (clearL l s).1) : y ∈ l := by
  unfold clearL at h
  split at h
  · exact (List.mem_filter.1 h).1
  · exact h
theorem clear_len (l : Mk) (s : Nm) : (clearL l s).1.length ≤ l.length := by
  unfold clearL
  split
  · exact List.length_filter_le _ _
  · exact Nat.le_refl _
theorem rise_nodup {l : Mk} (h : RiseN l) : l.Nodup := h.imp fun {a b} hab e => by
  rw [e, Bord.bl_irrefl] at hab
  cases hab
theorem clear_one : ∀ {l : Mk} {s : Nm}, l.Nodup → s ∈ l → (l.filter fun x => decide (x ≠ s)).length + 1 = l.length
  | a :: l, s, h, hm => by
    rw [List.nodup_cons] at h
    rw [List.filter_cons]
    by_cases ha : a = s
    · rw [if_neg (by simp [ha]), List.length_cons]
      congr 1
      rw [List.length_filter_eq_length_iff]
      exact fun y hy => decide_eq_true fun e => h.1 (by rw [ha, ← e]; exact hy)
    · rw [if_pos (decide_eq_true ha), List.length_cons, List.length_cons]
      rcases List.mem_cons.1 hm with e | hm
      · exact absurd e.symm ha
      · rw [clear_one h.2 hm]
theorem nodup_le : ∀ {l m : List Nm}, l.Nodup → (∀ x ∈ l, x ∈ m) → l.length ≤ m.length
  | [], m, _, _ => Nat.zero_le _
  | a :: l, m, h, hs => by
    rw [List.nodup_cons] at h
    have ha := hs a List.mem_cons_self
    have h1 := nodup_le (m := m.erase a) h.2 fun x hx => (List.mem_erase_of_ne fun e : x = a => h.1 (by rw [← e]; exact hx)).2 (hs x (List.mem_cons_of_mem _ hx))
    rw [List.length_erase_of_mem ha] at h1
    have := List.length_pos_of_mem ha
    rw [List.length_cons]
    omega
end Mkt
end Go.Proofs.Ytonhfddklkbnbaa
