/- The document's answer for layer 12: Mark, Marks, Clear; conditions: at most 10,000 names, of at most 100 bytes. -/
import Derived.Test.YtonhfddklkbnbaaMka
import Derived.Test.YtonhfddklkbnbaaTxa
import Derived.Test.YtonhfddklkbnbaaLabs
namespace Go.Proofs.Ytonhfddklkbnbaa
namespace Mkt
open Go Go.RowKit Sx Trt
attribute [local irreducible] Go.Calls

abbrev RowN (v : Value) (l : Hp) (ks : List Nm) : Prop := RowB 9 1 v l ks.length (ks.flatMap cells1)
theorem flat1 (es : List Nm) : (es.flatMap cells1).all flat = true := by
  rw [List.all_eq_true]
  intro x hx
  obtain ⟨e, -, hxe⟩ := List.mem_flatMap.1 hx
  unfold cells1 at hxe
  simp only [List.mem_cons, List.not_mem_nil, or_false] at hxe
  subst hxe
  rfl
theorem row11 {v : Value} {l : Hp} {ks : List Nm} {k j : Nm} {e : TypeId} (h : RowB e 1 v l (ks.length + 1 + 1) (ks.flatMap cells1 ++ [S k] ++ [S j])) : RowB e 1 v l (ks ++ [k] ++ [j]).length ((ks ++ [k] ++ [j]).flatMap cells1) := by
  rw [List.length_append, List.length_append, List.flatMap_append, List.flatMap_append]
  exact h
set_option maxHeartbeats 16000000 in
theorem rmark_ok {m : Nat} {w0 : World} {l : Mk} {v : Value} {lw : Hp} (h : RowN v lw l) (hl : l.length ≤ 50000) (hn : ∀ e ∈ l, e.length ≤ 100000) (s : Nm) (hs : s.length ≤ 100000) (R : Hp) :
    CallsH Try.prog ⟨w0.heap.size, w0, m⟩ 34 [v, S s] (lw ++ R) fun u H' => ∃ l', H' = l' ++ R ∧ RowN u l' (markL l s) := by
  refine callsH1p (args := [v, S s]) Try.func34 rfl rfl rfl rfl ?_
  obtain ⟨a, cp, rfl⟩ := h.len
  have hin := fun w' hv => rin_ok l (by omega) s (.slice a l.length cp) w' hv
  unfold markL
  by_cases hm : s ∈ l
  · rw [if_pos hm]
    rw [decide_eq_true hm] at hin
    repeat' (first | refine aw_seq ?_ | refine zz ?_ | refine zon fun _ => ?_ | refine zoa fun vr lr hr => ?_ | ((first | apply ao_call | apply aq_call); exact wants_a; (first | exact oc_func rfl | exact oc_clos rfl rfl | exact oc_bnd rfl rfl); (exact rfl); (first | exact fun w hw => hin w (hw.oldr h cut_a))) | refine zoS (fun _ => ?_) (fun _ => ?_) | refine zqS (fun _ => ?_) (fun _ => ?_) | refine zwS (fun _ => ?_) (fun _ => ?_))
    exact ⟨lw ++ R, _, hsub_a, List.Perm.refl _, lw, rfl, h⟩
  rw [if_neg hm]
  rw [decide_eq_false hm] at hin
  repeat' (first | refine aw_seq ?_ | refine zz ?_ | refine zon fun _ => ?_ | refine zoa fun vr lr hr => ?_ | ((first | apply ao_call | apply aq_call); exact wants_a; (first | exact oc_func rfl | exact oc_clos rfl rfl | exact oc_bnd rfl rfl); (exact rfl); (first | exact fun w hw => hin w (hw.oldr h cut_a))) | refine zoS (fun _ => ?_) (fun _ => ?_) | refine zqS (fun _ => ?_) (fun _ => ?_) | refine zwS (fun _ => ?_) (fun _ => ?_))
  refine aw_forH (t0 := [(0, .slice a l.length cp), (1, S s), (6, .slice none 0 0), (7, .bool false), (8, I (0 : Nat))]) (fun q tm H => ∃ (i : Nat) (D : Bool) (out : Mk) (v5 : Value) (l5 : Hp), q = l.length - i ∧ i ≤ l.length ∧ InsS s l i D out ∧ RowN v5 l5 out ∧ tm = [(0, .slice a l.length cp), (1, S s), (6, v5), (7, .bool D), (8, I i)] ∧ H = l5 ++ (lw ++ R))
    ⟨0, false, [], _, [], rfl, by omega, .inr ⟨rfl, (fun e he => by rw [List.take_zero] at he; cases he), rfl⟩, RowB.nil, rfl, rfl⟩ (by repeat (first | exact sub_nil | refine sub_cons rfl ?_)) hsub_a ?_
  clear hin
  rintro q tm H ⟨i, D, out, v5, l5, rfl, hi, hins, r5, rfl, rfl⟩
  obtain ⟨a5, c5, hv5⟩ := r5.len
  subst hv5
  have hlo := hins.len
  have hfo := flat1 out
  by_cases hlt : i < l.length
  · obtain ⟨x, he⟩ := getP hlt
    obtain ⟨gN, capN, csN, e1, e2, hcN⟩ := RowB.cells cells1_len h he
    cases e1
    subst e2
    have cX : csN[0 + (i : Int).toNat * 1]? = some (S x) := by rw [Int.toNat_natCast]; exact hcN 0 _ rfl
    have hx100 := hn _ (List.mem_of_getElem? he)
    have hb := fun w' => Lab.before_ok s x (by omega) (by omega) w'
    cases D
    · cases hbl : Op.bytesLess s x
      · rw [hbl] at hb
        repeat' (first | refine aw_seq ?_ | refine zz ?_ | refine zon fun _ => ?_ | refine zoa fun vr lr hr => ?_ | ((first | apply ao_call | apply aq_call); exact wants_a; (first | exact oc_func rfl | exact oc_clos rfl rfl | exact oc_bnd rfl rfl); (exact rfl); (first | exact fun w hw => hb w)) | refine zoS (fun _ => ?_) (fun _ => ?_) | refine zqS (fun _ => ?_) (fun _ => ?_) | refine zwS (fun _ => ?_) (fun _ => ?_))
        exact lq_normal' ⟨i + 1, _, _, _, _, rfl, by omega, hins.next he hbl, row1 (by assumption), rfl, rfl⟩ (by omega) (by repeat (first | exact sub_nil | refine sub_cons rfl ?_)) hsub_a
      · rw [hbl] at hb
        repeat' (first | refine aw_seq ?_ | refine zz ?_ | refine zon fun _ => ?_ | refine zoa fun vr lr hr => ?_ | ((first | apply ao_call | apply aq_call); exact wants_a; (first | exact oc_func rfl | exact oc_clos rfl rfl | exact oc_bnd rfl rfl); (exact rfl); (first | exact fun w hw => hb w)) | refine zoS (fun _ => ?_) (fun _ => ?_) | refine zqS (fun _ => ?_) (fun _ => ?_) | refine zwS (fun _ => ?_) (fun _ => ?_))
        exact lq_normal' ⟨i + 1, _, _, _, _, rfl, by omega, hins.here he hbl, row11 (by assumption), rfl, rfl⟩ (by omega) (by repeat (first | exact sub_nil | refine sub_cons rfl ?_)) hsub_a
    · cases hbl : Op.bytesLess s x
      · rw [hbl] at hb
        repeat' (first | refine aw_seq ?_ | refine zz ?_ | refine zon fun _ => ?_ | refine zoa fun vr lr hr => ?_ | ((first | apply ao_call | apply aq_call); exact wants_a; (first | exact oc_func rfl | exact oc_clos rfl rfl | exact oc_bnd rfl rfl); (exact rfl); (first | exact fun w hw => hb w)) | refine zoS (fun _ => ?_) (fun _ => ?_) | refine zqS (fun _ => ?_) (fun _ => ?_) | refine zwS (fun _ => ?_) (fun _ => ?_))
        exact lq_normal' ⟨i + 1, _, _, _, _, rfl, by omega, hins.done he, row1 (by assumption), rfl, rfl⟩ (by omega) (by repeat (first | exact sub_nil | refine sub_cons rfl ?_)) hsub_a
      · rw [hbl] at hb
        repeat' (first | refine aw_seq ?_ | refine zz ?_ | refine zon fun _ => ?_ | refine zoa fun vr lr hr => ?_ | ((first | apply ao_call | apply aq_call); exact wants_a; (first | exact oc_func rfl | exact oc_clos rfl rfl | exact oc_bnd rfl rfl); (exact rfl); (first | exact fun w hw => hb w)) | refine zoS (fun _ => ?_) (fun _ => ?_) | refine zqS (fun _ => ?_) (fun _ => ?_) | refine zwS (fun _ => ?_) (fun _ => ?_))
        exact lq_normal' ⟨i + 1, _, _, _, _, rfl, by omega, hins.done he, row1 (by assumption), rfl, rfl⟩ (by omega) (by repeat (first | exact sub_nil | refine sub_cons rfl ?_)) hsub_a
  · obtain rfl : i = l.length := by omega
    cases D
    · rw [hins.end_f]
      repeat' (first | refine aw_seq ?_ | refine zz ?_ | refine zon fun _ => ?_ | refine zoa fun vr lr hr => ?_ | refine zoS (fun _ => ?_) (fun _ => ?_) | refine zqS (fun _ => ?_) (fun _ => ?_) | refine zwS (fun _ => ?_) (fun _ => ?_))
      exact ⟨lr ++ R, _, hsub_a, List.Perm.refl _, lr, rfl, row1 hr⟩
    · rw [hins.end_t]
      repeat' (first | refine aw_seq ?_ | refine zz ?_ | refine zon fun _ => ?_ | refine zoa fun vr lr hr => ?_ | refine zoS (fun _ => ?_) (fun _ => ?_) | refine zqS (fun _ => ?_) (fun _ => ?_) | refine zwS (fun _ => ?_) (fun _ => ?_))
      exact ⟨l5 ++ R, _, hsub_a, List.Perm.refl _, l5, rfl, r5⟩
set_option maxHeartbeats 16000000 in
theorem rmarks_ok {m : Nat} {w0 : World} {l : Mk} {v vm : Value} {lw : Hp} (h : RowN v lw l) (hl : l.length ≤ 5000) (hn : ∀ e ∈ l, e.length ≤ 100) (more : List Nm) (hm : more.length ≤ 1000) (hmn : ∀ e ∈ more, e.length ≤ 100) (hv : OldRow w0 1 vm more.length (more.flatMap cells1)) (R : Hp) :
    CallsH Try.prog ⟨w0.heap.size, w0, m⟩ 15 [v, vm] (lw ++ R) fun u H' => ∃ l', H' = l' ++ R ∧ RowN u l' (marksL l more) := by
  refine callsH1p (args := [v, vm]) Try.func15 rfl rfl rfl rfl ?_
  obtain ⟨a, cp, rfl, hat⟩ := OldRow.cells cells1_len hv
  repeat' (first | refine aw_seq ?_ | refine zz ?_ | refine zon fun _ => ?_ | refine zoa fun vr lr hr => ?_ | refine zoS (fun _ => ?_) (fun _ => ?_) | refine zqS (fun _ => ?_) (fun _ => ?_) | refine zwS (fun _ => ?_) (fun _ => ?_))
  refine aw_for (t0 := [(1, .slice a more.length cp), (5, v), (6, I (0 : Nat))]) (fun q tm H => ∃ (i : Nat) (v5 : Value) (l5 : Hp), q = more.length - i ∧ i ≤ more.length ∧ RowN v5 l5 (marksL l (more.take i)) ∧ tm = [(1, .slice a more.length cp), (5, v5), (6, I i)] ∧ H = l5 ++ R)
    ⟨0, v, lw, rfl, by omega, h, rfl, rfl⟩ (by repeat (first | exact sub_nil | refine sub_cons rfl ?_)) ?_
  rintro q tm H ⟨i, v5, l5, rfl, hi, r5, rfl, rfl⟩
  by_cases hlt : i < more.length
  · obtain ⟨x, he⟩ := getP hlt
    obtain ⟨g1, o1, rfl, hg, hc⟩ := hat i _ (i : Int) he rfl
    have cX : w0.cell? ⟨g1, o1 + (i : Int).toNat * 1, none⟩ = some (S x) := hc 0 _ rfl
    have h1 := marks_len (more.take i) l
    have h2 := List.length_take_le i more
    have hmk := fun m R => rmark_ok (m := m) (w0 := w0) r5 (by omega) (fun e he => by
      rcases marks_mem.1 he with h | h
      · exact Nat.le_trans (hmn e (List.mem_of_mem_take h)) (by decide)
      · exact Nat.le_trans (hn e h) (by decide)) x (Nat.le_trans (hmn x (List.mem_of_getElem? he)) (by decide)) R
    rw [← marks_take he] at hmk
    repeat' (first | refine aw_seq ?_ | refine zz ?_ | refine zon fun _ => ?_ | refine zoa fun vr lr hr => ?_ | ((apply ao_callH (l := l5); exact wants_a; (exact oc_func rfl); (exact rfl); (exact cut_a); (exact hmk _ _); rintro v6 _ ⟨l6, rfl, r6⟩)) | refine zoS (fun _ => ?_) (fun _ => ?_) | refine zqS (fun _ => ?_) (fun _ => ?_) | refine zwS (fun _ => ?_) (fun _ => ?_))
    exact lq_normal' ⟨i + 1, v6, l6, rfl, by omega, r6, rfl, rfl⟩ (by omega) (by repeat (first | exact sub_nil | refine sub_cons rfl ?_)) hsub_a
  · obtain rfl : i = more.length := by omega
    rw [List.take_length] at r5
    repeat' (first | refine aw_seq ?_ | refine zz ?_ | refine zon fun _ => ?_ | refine zoa fun vr lr hr => ?_ | refine zoS (fun _ => ?_) (fun _ => ?_) | refine zqS (fun _ => ?_) (fun _ => ?_) | refine zwS (fun _ => ?_) (fun _ => ?_))
    exact ⟨l5 ++ R, _, hsub_a, List.Perm.refl _, l5, rfl, r5⟩
def clN (l : Mk) (s : Nm) (i : Nat) : Mk := (l.take i).filter fun x => decide (x ≠ s)
theorem clN_s {l : Mk} {s : Nm} {i : Nat} {x : Nm} (he : l[i]? = some x) : clN l s (i + 1) = clN l s i ++ (if x ≠ s then [x] else []) := by
  unfold clN
  rw [List.take_add_one, he, List.filter_append]
  congr 1
  show (List.filter _ [x]) = _
  by_cases h : x ≠ s
  · rw [if_pos h, List.filter_cons, if_pos (decide_eq_true h)]; rfl
  · rw [if_neg h, List.filter_cons, if_neg (by rw [decide_eq_false h]; decide)]; rfl
theorem clN_len (l : Mk) (s : Nm) (i : Nat) : (clN l s i).length ≤ i := by
  unfold clN
  have := List.length_filter_le (fun x : Nm => decide (x ≠ s)) (l.take i)
  rw [List.length_take] at this
  omega
set_option maxHeartbeats 16000000 in
theorem rclear_ok {m : Nat} {w0 : World} {l : Mk} {v : Value} {lw : Hp} (h : RowN v lw l) (hl : l.length ≤ 10000) (s : Nm) (R : Hp) :
    CallsH Try.prog ⟨w0.heap.size, w0, m⟩ 16 [v, S s] (lw ++ R) fun u H' => ∃ v' l', u = .tuple #[v', I (clearL l s).2] ∧ H' = l' ++ R ∧ RowN v' l' (clearL l s).1 := by
  refine callsH2 (args := [v, S s]) Try.func16 rfl rfl rfl rfl ?_
  obtain ⟨a, cp, rfl⟩ := h.len
  have hin := fun w' hv => rin_ok l (by omega) s (.slice a l.length cp) w' hv
  unfold clearL
  by_cases hm : s ∉ l
  · rw [if_neg hm]
    rw [decide_eq_false hm] at hin
    repeat' (first | refine aw_seq ?_ | refine zz ?_ | refine zon fun _ => ?_ | refine zoa fun vr lr hr => ?_ | ((first | apply ao_call | apply aq_call); exact wants_a; (first | exact oc_func rfl | exact oc_clos rfl rfl | exact oc_bnd rfl rfl); (exact rfl); (first | exact fun w hw => hin w (hw.oldr h cut_a))) | refine zoS (fun _ => ?_) (fun _ => ?_) | refine zqS (fun _ => ?_) (fun _ => ?_) | refine zwS (fun _ => ?_) (fun _ => ?_))
    exact ⟨lw ++ R, _, hsub_a, List.Perm.refl _, _, lw, rfl, rfl, h⟩
  have hm : s ∈ l := Classical.not_not.1 hm
  rw [if_pos hm]
  rw [decide_eq_true hm] at hin
  repeat' (first | refine aw_seq ?_ | refine zz ?_ | refine zon fun _ => ?_ | refine zoa fun vr lr hr => ?_ | ((first | apply ao_call | apply aq_call); exact wants_a; (first | exact oc_func rfl | exact oc_clos rfl rfl | exact oc_bnd rfl rfl); (exact rfl); (first | exact fun w hw => hin w (hw.oldr h cut_a))) | refine zoS (fun _ => ?_) (fun _ => ?_) | refine zqS (fun _ => ?_) (fun _ => ?_) | refine zwS (fun _ => ?_) (fun _ => ?_))
  refine aw_forH (t0 := [(0, .slice a l.length cp), (1, S s), (7, .slice none 0 0), (8, I (0 : Nat))]) (fun q tm H => ∃ (i : Nat) (v5 : Value) (l5 : Hp), q = l.length - i ∧ i ≤ l.length ∧ RowN v5 l5 (clN l s i) ∧ tm = [(0, .slice a l.length cp), (1, S s), (7, v5), (8, I i)] ∧ H = l5 ++ (lw ++ R))
    ⟨0, _, [], rfl, by omega, RowB.nil, rfl, rfl⟩ (by repeat (first | exact sub_nil | refine sub_cons rfl ?_)) hsub_a ?_
  clear hin
  rintro q tm H ⟨i, v5, l5, rfl, hi, r5, rfl, rfl⟩
  obtain ⟨a5, c5, hv5⟩ := r5.len
  subst hv5
  have hln := clN_len l s i
  by_cases hlt : i < l.length
  · obtain ⟨x, he⟩ := getP hlt
    obtain ⟨gN, capN, csN, e1, e2, hcN⟩ := RowB.cells cells1_len h he
    cases e1
    subst e2
    have cX : csN[0 + (i : Int).toNat * 1]? = some (S x) := by rw [Int.toNat_natCast]; exact hcN 0 _ rfl
    have hnx := clN_s (s := s) he
    by_cases hk : x = s
    · rw [if_neg fun h => h hk, List.append_nil] at hnx
      have ek : (x != s) = false := by rw [hk]; exact bne_self_eq_false _
      repeat' (first | refine aw_seq ?_ | refine zz ?_ | refine zon fun _ => ?_ | refine zoa fun vr lr hr => ?_ | refine zoS (fun _ => ?_) (fun _ => ?_) | refine zqS (fun _ => ?_) (fun _ => ?_) | refine zwS (fun _ => ?_) (fun _ => ?_))
      exact lq_normal' ⟨i + 1, _, _, rfl, by omega, by rw [hnx]; exact r5, rfl, rfl⟩ (by omega) (by repeat (first | exact sub_nil | refine sub_cons rfl ?_)) hsub_a
    · rw [if_pos hk] at hnx
      have ek : (x != s) = true := bne_iff_ne.2 hk
      repeat' (first | refine aw_seq ?_ | refine zz ?_ | refine zon fun _ => ?_ | refine zoa fun vr lr hr => ?_ | refine zoS (fun _ => ?_) (fun _ => ?_) | refine zqS (fun _ => ?_) (fun _ => ?_) | refine zwS (fun _ => ?_) (fun _ => ?_))
      exact lq_normal' ⟨i + 1, _, _, rfl, by omega, by rw [hnx]; exact row1 (by assumption), rfl, rfl⟩ (by omega) (by repeat (first | exact sub_nil | refine sub_cons rfl ?_)) hsub_a
  · obtain rfl : i = l.length := by omega
    have e5 : clN l s l.length = l.filter fun x => decide (x ≠ s) := by unfold clN; rw [List.take_length]
    rw [← e5]
    repeat' (first | refine aw_seq ?_ | refine zz ?_ | refine zon fun _ => ?_ | refine zoa fun vr lr hr => ?_ | refine zoS (fun _ => ?_) (fun _ => ?_) | refine zqS (fun _ => ?_) (fun _ => ?_) | refine zwS (fun _ => ?_) (fun _ => ?_))
    exact ⟨l5 ++ R, _, hsub_a, List.Perm.refl _, _, l5, rfl, rfl, r5⟩
end Mkt
end Go.Proofs.Ytonhfddklkbnbaa
