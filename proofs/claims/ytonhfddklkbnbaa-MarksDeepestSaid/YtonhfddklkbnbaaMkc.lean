/- Acts on marks, as the laws of layer 12 do them: which are gone through; the live question; conditions: none. -/
import Derived.Test.YtonhfddklkbnbaaMkl
import Derived.Test.YtonhfddklkbnbaaTrt
namespace Go.Proofs.Ytonhfddklkbnbaa
namespace Mkt
open Go Go.RowKit Sx Trt
attribute [local irreducible] Go.Calls

/-- An act that comes in: its kind, its names where they lie, its name. -/
structure Am where
  kind : Int
  v : Value
  ks : List Nm
  s : Nm
def cellsM (a : Am) : List Value := [.int .u8 a.kind, a.v, S a.s]
theorem cellsM_len (a : Am) : (cellsM a).length = 3 := rfl
/-- Acts that came in. -/
def ActsAt (w : World) (v : Value) (l : List Am) : Prop := OldRow w 3 v l.length (l.flatMap cellsM) ∧ ∀ a ∈ l, OldRow w 1 a.v a.ks.length (a.ks.flatMap cells1)
theorem ActsAt.below {w w' : World} {v : Value} {l : List Am} (h : ActsAt w v l) (hb : Below w.heap.size w w') : ActsAt w' v l := ⟨OldRow.below h.1 hb, fun a ha => OldRow.below (h.2 a ha) hb⟩
def fitQ (a : Am) : Prop := a.ks.length ≤ 60 ∧ a.s.length ≤ 100 ∧ ∀ x ∈ a.ks, x.length ≤ 100
def fitsM (l : List Am) : Bool := decide (l.length ≤ 60) && l.all fun a => decide (a.ks.length ≤ 60) && decide (a.s.length ≤ 100) && a.ks.all fun x => decide (x.length ≤ 100)
theorem fitsM_wf {l : List Am} (h : fitsM l = true) : l.length ≤ 60 ∧ ∀ a ∈ l, fitQ a := by
  unfold fitsM at h
  rw [Bool.and_eq_true, decide_eq_true_eq, List.all_eq_true] at h
  refine ⟨h.1, fun a ha => ?_⟩
  have h1 := h.2 a ha
  rw [Bool.and_eq_true, Bool.and_eq_true, decide_eq_true_eq, decide_eq_true_eq, List.all_eq_true] at h1
  exact ⟨h1.1.1, h1.1.2, fun x hx => of_decide_eq_true (h1.2 x hx)⟩
theorem fitsM_t {l : List Am} (h : l.length ≤ 60) (h2 : ∀ a ∈ l, fitQ a) : fitsM l = true := by
  unfold fitsM
  rw [decide_eq_true h, Bool.true_and, List.all_eq_true]
  intro a ha
  obtain ⟨q1, q2, q3⟩ := h2 a ha
  rw [decide_eq_true q1, decide_eq_true q2, Bool.true_and, Bool.true_and, List.all_eq_true]
  exact fun x hx => decide_eq_true (q3 x hx)
theorem fitsM_f {l : List Am} {a : Am} (ha : a ∈ l) (h : ¬ fitQ a) : fitsM l = false := by
  cases hf : fitsM l with
  | false => rfl
  | true => exact absurd ((fitsM_wf hf).2 a ha) h
set_option maxHeartbeats 16000000 in
theorem fits12_ok (v : Value) (l : List Am) (w : World) (hv : ActsAt w v l) :
    Calls Try.prog 5 #[v] w fun e w' => e = .returned (.bool (fitsM l)) ∧ Below w.heap.size w w' := by
  obtain ⟨a, cp, rfl, hat⟩ := OldRow.cells cellsM_len hv.1
  refine calls1 (args := [.slice a l.length cp]) Try.func5 rfl rfl rfl rfl ?_
  by_cases h60 : 60 < l.length
  · rw [show fitsM l = false by unfold fitsM; rw [decide_eq_false (by omega)]; rfl]
    repeat' (first | refine aw_seq ?_ | refine zz ?_ | refine zon fun _ => ?_ | refine zoa fun vr lr hr => ?_ | refine zoS (fun _ => ?_) (fun _ => ?_) | refine zqS (fun _ => ?_) (fun _ => ?_) | refine zwS (fun _ => ?_) (fun _ => ?_))
    exact fun w' hw => ⟨rfl, hw.below⟩
  repeat' (first | refine aw_seq ?_ | refine zz ?_ | refine zon fun _ => ?_ | refine zoa fun vr lr hr => ?_ | refine zoS (fun _ => ?_) (fun _ => ?_) | refine zqS (fun _ => ?_) (fun _ => ?_) | refine zwS (fun _ => ?_) (fun _ => ?_))
  refine aw_for (t0 := [(0, .slice a l.length cp), (3, I (0 : Nat))]) (fun q t H => ∃ i : Nat, q = l.length - i ∧ i ≤ l.length ∧ (∀ (j : Nat) (e : Am), j < i → l[j]? = some e → fitQ e) ∧ t = [(0, .slice a l.length cp), (3, I i)] ∧ H = []) ⟨0, rfl, by omega, fun j p hj => by omega, rfl, rfl⟩ (by repeat (first | exact sub_nil | refine sub_cons rfl ?_)) ?_
  rintro q t H ⟨i, rfl, hi, hall, rfl, rfl⟩
  by_cases hlt : i < l.length
  · obtain ⟨⟨kind, vk, ks, s⟩, he⟩ := getP hlt
    have m1 := List.mem_of_getElem? he
    have hk := hv.2 _ m1
    simp only at hk
    obtain ⟨ak, ck, rfl, hatk⟩ := OldRow.cells cells1_len hk
    obtain ⟨g, o1, rfl, hg, hc⟩ := hat i _ (i : Int) he rfl
    have c1 : w.cell? ⟨g, o1 + (i : Int).toNat * 3 + 1, none⟩ = some (.slice ak ks.length ck) := hc 1 _ rfl
    have c2 : w.cell? ⟨g, o1 + (i : Int).toNat * 3 + 2, none⟩ = some (S s) := hc 2 _ rfl
    by_cases h1 : 60 < ks.length
    · rw [fitsM_f m1 fun h => by have := h.1; simp only at this; omega]
      repeat' (first | refine aw_seq ?_ | refine zz ?_ | refine zon fun _ => ?_ | refine zoa fun vr lr hr => ?_ | refine zoS (fun _ => ?_) (fun _ => ?_) | refine zqS (fun _ => ?_) (fun _ => ?_) | refine zwS (fun _ => ?_) (fun _ => ?_))
      exact fun w' hw => ⟨rfl, hw.below⟩
    by_cases h2 : 100 < s.length
    · rw [fitsM_f m1 fun h => by have := h.2.1; simp only at this; omega]
      repeat' (first | refine aw_seq ?_ | refine zz ?_ | refine zon fun _ => ?_ | refine zoa fun vr lr hr => ?_ | refine zoS (fun _ => ?_) (fun _ => ?_) | refine zqS (fun _ => ?_) (fun _ => ?_) | refine zwS (fun _ => ?_) (fun _ => ?_))
      exact fun w' hw => ⟨rfl, hw.below⟩
    repeat' (first | refine aw_seq ?_ | refine zz ?_ | refine zon fun _ => ?_ | refine zoa fun vr lr hr => ?_ | refine zoS (fun _ => ?_) (fun _ => ?_) | refine zqS (fun _ => ?_) (fun _ => ?_) | refine zwS (fun _ => ?_) (fun _ => ?_))
    refine aw_for (t0 := [(0, .slice (some ⟨g, o1, none⟩) l.length cp), (3, I i), (4, I (0 : Nat))]) (fun q t H => ∃ k : Nat, q = ks.length - k ∧ k ≤ ks.length ∧ (∀ (j : Nat) (e : Nm), j < k → ks[j]? = some e → e.length ≤ 100) ∧ t = [(0, .slice (some ⟨g, o1, none⟩) l.length cp), (3, I i), (4, I k)] ∧ H = []) ⟨0, rfl, by omega, fun j p hj => by omega, rfl, rfl⟩ (by repeat (first | exact sub_nil | refine sub_cons rfl ?_)) ?_
    rintro q t H ⟨k, rfl, hkk, hallk, rfl, rfl⟩
    by_cases hlk : k < ks.length
    · obtain ⟨x, hx⟩ := getP hlk
      obtain ⟨g2, o2, rfl, hg2, hc2⟩ := hatk k _ (k : Int) hx rfl
      have d1 : w.cell? ⟨g2, o2 + (k : Int).toNat * 1, none⟩ = some (S x) := hc2 0 _ rfl
      by_cases h3 : 100 < x.length
      · rw [fitsM_f m1 fun h => by have := h.2.2 x (List.mem_of_getElem? hx); omega]
        repeat' (first | refine aw_seq ?_ | refine zz ?_ | refine zon fun _ => ?_ | refine zoa fun vr lr hr => ?_ | refine zoS (fun _ => ?_) (fun _ => ?_) | refine zqS (fun _ => ?_) (fun _ => ?_) | refine zwS (fun _ => ?_) (fun _ => ?_))
        exact fun w' hw => ⟨rfl, hw.below⟩
      · repeat' (first | refine aw_seq ?_ | refine zz ?_ | refine zon fun _ => ?_ | refine zoa fun vr lr hr => ?_ | refine zoS (fun _ => ?_) (fun _ => ?_) | refine zqS (fun _ => ?_) (fun _ => ?_) | refine zwS (fun _ => ?_) (fun _ => ?_))
        exact lq_normal' ⟨k + 1, rfl, by omega, fun j z hj hz => by
          by_cases e1 : j = k
          · subst e1; rw [hx] at hz; cases hz; omega
          · exact hallk j z (by omega) hz, rfl, rfl⟩ (by omega) (by repeat (first | exact sub_nil | refine sub_cons rfl ?_)) hsub_a
    · obtain rfl : k = ks.length := by omega
      repeat' (first | refine aw_seq ?_ | refine zz ?_ | refine zon fun _ => ?_ | refine zoa fun vr lr hr => ?_ | refine zoS (fun _ => ?_) (fun _ => ?_) | refine zqS (fun _ => ?_) (fun _ => ?_) | refine zwS (fun _ => ?_) (fun _ => ?_))
      exact lq_normal' ⟨i + 1, rfl, by omega, fun j z hj hz => by
        by_cases e1 : j = i
        · subst e1; rw [he] at hz; cases hz
          exact ⟨by simp only; omega, by simp only; omega, fun x hx => by
            obtain ⟨j, hj⟩ := List.getElem?_of_mem hx
            exact hallk j x (List.getElem?_eq_some_iff.1 hj).1 hj⟩
        · exact hall j z (by omega) hz, rfl, rfl⟩ (by omega) (by repeat (first | exact sub_nil | refine sub_cons rfl ?_)) hsub_a
  · obtain rfl : i = l.length := by omega
    rw [fitsM_t (by omega) fun e he => by
      obtain ⟨j, hj⟩ := List.getElem?_of_mem he
      exact hall j e (List.getElem?_eq_some_iff.1 hj).1 hj]
    repeat' (first | refine aw_seq ?_ | refine zz ?_ | refine zon fun _ => ?_ | refine zoa fun vr lr hr => ?_ | refine zoS (fun _ => ?_) (fun _ => ?_) | refine zqS (fun _ => ?_) (fun _ => ?_) | refine zwS (fun _ => ?_) (fun _ => ?_))
    exact fun w' hw => ⟨rfl, hw.below⟩
theorem FitM.new : FitM [] := ⟨List.Pairwise.nil, by show (0 : Nat) ≤ 4000; omega, fun e h => by cases h⟩
theorem FitM.clear {l : Mk} (h : FitM l) (s : Nm) : FitM (clearL l s).1 := ⟨clear_rise h.rise s, Nat.le_trans (clear_len l s) h.len, fun e he => h.nm e (clear_mem he)⟩
theorem FitM.marks {l : Mk} (h : FitM l) {ks : List Nm} (hk : l.length + ks.length ≤ 4000) (hn : ∀ e ∈ ks, e.length ≤ 100) : FitM (marksL l ks) := ⟨marks_rise ks h.rise, Nat.le_trans (marks_len ks l) hk, fun e he => (marks_mem.1 he).elim (hn e) (h.nm e)⟩
/-- Names that lie in the own heap are marked. -/
theorem mmark_row {m : Nat} {w0 : World} {l : Mk} {g : Nat} {h : Hp} (hL : LMk l g h) (hf : FitM l) {v : Value} {ks : List Nm} {lv R2 : Hp} (hk : ks.length ≤ 1000) (hn : ∀ e ∈ ks, e.length ≤ 100) (R : Hp) (hr : RowN v lv ks) (hc : Cut R lv R2) :
    CallsH Try.prog ⟨w0.heap.size, w0, m⟩ 14 [.pointer (some ⟨g, 0, none⟩), v] (h ++ R) (MDid g 0 (marksL l ks) R) := mmark_ok hL hf hk hn R fun _ _ hw => hw.oldr hr hc
end Mkt
end Go.Proofs.Ytonhfddklkbnbaa
