/- The library's sort of texts over a row of the call's own; conditions: fewer than 2^62 texts. -/
import Derived.Shelf.Sort.Plain
import Derived.Shelf.Slices.In.SortNone
import Derived.Test.YtonhfddklkbnbaaTxa
import Derived.Test.YtonhfddklkbnbaaShelf
namespace Go.Proofs.Ytonhfddklkbnbaa
namespace Trt
open Go Go.RowKit Go.Sort Go.Shelf Sx

/-! The order. -/
theorem bl_lt : ∀ a b : Nm, Op.bytesLess a b = true ↔ a < b
  | _, [] => by simp [Op.bytesLess]
  | [], y :: b => by simp [Op.bytesLess]
  | x :: a, y :: b => by
    rw [List.cons_lt_cons_iff]
    simp only [Op.bytesLess, Bool.or_eq_true, decide_eq_true_eq, Bool.and_eq_true, beq_iff_eq, bl_lt a b]
abbrev leN (x y : Nm) : Bool := decide (x ≤ y)
theorem leN_iff (x y : Nm) : leN x y = true ↔ Op.bytesLess y x = false := by
  unfold leN
  rw [decide_eq_true_eq, ← List.not_lt, ← bl_lt]
  simp
theorem leN_of {x y : Nm} (h : Op.bytesLess x y = true) : leN x y = true := (leN_iff x y).2 (Bord.bl_asymm x y h)
theorem leN_anti {x y : Nm} (h : leN x y = true) (g : leN y x = true) : x = y := Bord.bl_total _ _ ((leN_iff y x).1 g) ((leN_iff x y).1 h)
theorem leN_trans (x y z : Nm) (h : leN x y = true) (g : leN y z = true) : leN x z = true := by
  rw [leN_iff] at *
  cases hzx : Op.bytesLess z x
  · rfl
  · cases hyz : Op.bytesLess y z
    · have := Bord.bl_total _ _ hyz g
      subst this
      rw [h] at hzx; cases hzx
    · rw [Bord.bl_trans _ _ _ hyz hzx] at h; cases h
theorem leN_total (x y : Nm) : (leN x y || leN y x) = true := by
  rw [Bool.or_eq_true, leN_iff, leN_iff]
  cases h : Op.bytesLess y x
  · exact .inl rfl
  · exact .inr (Bord.bl_asymm _ _ h)
/-- Texts, rising. -/
abbrev srtN (ks : List Nm) : List Nm := ks.mergeSort leN
/-- What rises, and has the same texts, is what they are, sorted. -/
theorem srt_eq {ks ms : List Nm} (hp : ks.Perm ms) (hs : ms.Pairwise fun a b => Op.bytesLess a b = true) : srtN ks = ms :=
  List.Perm.eq_of_pairwise (le := fun a b => leN a b = true) (fun _ _ _ _ h g => leN_anti h g) (List.pairwise_mergeSort leN_trans leN_total ks) (hs.imp leN_of) ((List.mergeSort_perm ks leN).trans hp)
theorem srt_len (ks : List Nm) : (srtN ks).length = ks.length := (List.mergeSort_perm ks leN).length_eq

/-! The world behind it. -/
theorem rep_grow1 {E : Env} {H : Hp} {w : World} (h : RepH E H w) (n : Nat) (os : Array Obj) : RepH E H (grow (Sort.ahead w n) os) := by
  refine ⟨⟨h.below.os, h.below.tape, h.below.output, ?_, fun k hk => ?_⟩, h.base, h.nodup, fun b o hm => ?_⟩
  · rw [size_grow]
    exact Nat.le_trans h.below.size (Nat.le_add_right _ _)
  · have hlt : k < w.heap.size := Nat.lt_of_lt_of_le hk (Nat.le_trans h.base h.below.size)
    rw [heap_grow_old (Sort.ahead w n) _ hlt]
    exact h.below.block k hk
  · obtain ⟨h1, h2⟩ := h.at_ b o hm
    refine ⟨h1, ?_⟩
    rw [heap_grow_old (Sort.ahead w n) _ (Array.getElem?_eq_some_iff.1 h2).1]
    exact h2
theorem modify_at1 {a : Array Obj} {g : Nat} {c : Array Value} {T : TypeId} {fz : Nat × Nat} (h : a[g]? = some (.cells c T fz)) (f : Array Value → Array Value) : a.modify g (onCells f) = a.setIfInBounds g (.cells (f c) T fz) := by
  apply Array.ext_getElem?
  intro i
  rw [Array.getElem?_modify, Array.getElem?_setIfInBounds]
  by_cases e : g = i
  · subst e
    rw [if_pos rfl, if_pos rfl, h, if_pos (Array.getElem?_eq_some_iff.1 h).1]
    rfl
  · rw [if_neg e, if_neg e]
theorem flat_map1 (ks : List Nm) : ks.flatMap cells1 = ks.map encStr := by
  induction ks with
  | nil => rfl
  | cons a l ih => rw [List.flatMap_cons, ih]; rfl
theorem put_take1 (ks : List Nm) (cs : List Value) (hl : ks.length ≤ cs.length) : ((putCells encStr 0 ks.toArray cs.toArray).toList).take ks.length = ks.map encStr := by
  apply List.ext_getElem?
  intro j
  by_cases hj : j < ks.length
  · rw [List.getElem?_take_of_lt hj, List.getElem?_map, List.getElem?_eq_getElem hj]
    unfold putCells
    rw [Array.getElem?_toList, Array.getElem?_mapIdx]
    have h0 : cs.toArray[j]? = some (cs[j]'(by omega)) := by
      rw [List.getElem?_toArray]
      exact List.getElem?_eq_getElem _
    rw [h0]
    simp only [Option.map_some, Nat.zero_le, true_and, Nat.zero_add, Nat.sub_zero, List.size_toArray]
    rw [if_pos hj, getElem!_pos ks.toArray j (by simpa using hj)]
    simp
  · rw [List.getElem?_eq_none (by rw [List.length_take]; omega), List.getElem?_eq_none (by rw [List.length_map]; omega)]
theorem sortS_of {P : Program} {E : Env} {f : FuncId}
    (hc : ∀ (blk off cap : Nat) (ss : List Nm) (w : World), Holds encStr w blk off ss.toArray → blk < w.heap.size → ss.length < 4611686018427387904 → Calls P f #[.slice (some ⟨blk, off, none⟩) ss.length cap] w fun e w' => e = .returned (.tuple #[]) ∧ ∃ n os, w' = grow (putRow encStr (Sort.ahead w n) blk off (ss.mergeSort fun x y => decide (x ≤ y)).toArray) os)
    (hn : ∀ (p : Option Addr) (cap : Nat) (w : World), Calls P f #[.slice p 0 cap] w fun e w' => e = .returned (.tuple #[]) ∧ w' = w)
    {T : TypeId} {v : Value} {l : Hp} (ks : List Nm) (hr : RowB T 1 v l ks.length (ks.flatMap cells1)) (hsz : ks.length ≤ 100000) (R : Hp) :
    CallsH P E f [v] (l ++ R) fun u H' => u = .tuple #[] ∧ ∃ l' : Hp, H' = l' ++ R ∧ RowB T 1 v l' (srtN ks).length ((srtN ks).flatMap cells1) := by
  intro hid w hh
  rcases Nat.eq_zero_or_pos ks.length with h0 | hpos
  · have he : ks = [] := List.eq_nil_of_length_eq_zero h0
    subst he
    obtain ⟨p, cap, hv⟩ : ∃ p cap, v = .slice p 0 cap := by
      rcases hr.2 with ⟨rfl, -, -⟩ | ⟨_, _, _, rfl, _⟩
      · exact ⟨_, _, rfl⟩
      · exact ⟨_, _, rfl⟩
    subst hv
    refine (hn p cap w).mono fun e w' ⟨h2, h3⟩ => ⟨_, l ++ R, h2, by rw [h3]; exact hh, rfl, l, rfl, ?_⟩
    rw [show srtN [] = [] from List.mergeSort_nil]
    exact hr
  · obtain ⟨b, cap, cs, rfl, rfl, h3, h4, h5⟩ := hr.open hpos
    rw [Nat.mul_one] at h4 h5
    rw [flat_map1] at h5
    have hb : Has ((b, .cells cs.toArray T (0, 0)) :: (R ++ hid)) b (.cells cs.toArray T (0, 0)) := Has.head
    have hg := (hh.has hb).2
    have hblk : b < w.heap.size := (Array.getElem?_eq_some_iff.1 hg).1
    have hH : Holds encStr w b 0 ks.toArray := fun j hj => by
      rw [List.size_toArray] at hj
      have h1 : (ks.map encStr)[j]? = some (encStr ks[j]) := by rw [List.getElem?_map, List.getElem?_eq_getElem hj]; rfl
      rw [← h5, List.getElem?_take_of_lt hj] at h1
      constructor
      · simp only [World.cell?, hg, Nat.zero_add]
        rw [getElem!_pos ks.toArray j (by simpa using hj)]
        simpa using h1
      · simp [World.frozen?, hg]
    refine (hc b 0 cap ks w hH hblk (by omega)).mono fun e w' ⟨he, n, os, hw⟩ => ?_
    have hsl := srt_len ks
    have h1 := rep_grow1 (hh.upd (Upd.head b _ (.cells (putCells encStr 0 (srtN ks).toArray cs.toArray) T (0, 0)) (R ++ hid))) n os
    have e1 : mapBlock (Sort.ahead w n) b (putCells encStr 0 (srtN ks).toArray) = Sort.ahead { w with heap := w.heap.setIfInBounds b (.cells (putCells encStr 0 (srtN ks).toArray cs.toArray) T (0, 0)) } n := by
      unfold mapBlock Sort.ahead
      rw [modify_at1 (a := w.heap) hg]
    refine ⟨.tuple #[], (b, .cells (putCells encStr 0 (srtN ks).toArray cs.toArray) T (0, 0)) :: R, he, ?_, rfl, [(b, .cells (putCells encStr 0 (srtN ks).toArray cs.toArray) T (0, 0))], rfl, ?_⟩
    · rw [hw]
      unfold putRow
      rw [show (fun x y : Nm => decide (x ≤ y)) = leN from rfl, e1]
      exact h1
    · have ht := put_take1 (srtN ks) cs (by omega)
      have hlen : (putCells encStr 0 (srtN ks).toArray cs.toArray).toList.length = cs.length := by simp [putCells]
      rw [flat_map1, hsl] at *
      refine ⟨by rw [List.length_map, Nat.mul_one]; exact srt_len ks, .inr ⟨b, cap, _, rfl, rfl, h3, by simp [putCells, h4], ?_⟩⟩
      rw [Nat.mul_one]
      exact ht
theorem sortS_ok {E : Env} {T : TypeId} {v : Value} {l : Hp} (ks : List Nm) (hr : RowB T 1 v l ks.length (ks.flatMap cells1)) (hsz : ks.length ≤ 100000) (R : Hp) :
    CallsH Try.prog E 59 [v] (l ++ R) fun u H' => u = .tuple #[] ∧ ∃ l' : Hp, H' = l' ++ R ∧ RowB T 1 v l' (srtN ks).length ((srtN ks).flatMap cells1) :=
  sortS_of (fun blk off cap ss w h1 h2 h3 => Try.slices_Sort_string blk off cap ss w h1 h2 h3) (fun p cap w => Try.slices_Sort_string_none p cap w) ks hr hsz R
end Trt
end Go.Proofs.Ytonhfddklkbnbaa
