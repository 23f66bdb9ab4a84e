/- The landed feed: early: is one of its key ahead of it open; conditions: at most 1,000 events, each in its turn. -/
import Derived.Test.YtpenogailhlcaaaFyd
namespace Go.Proofs.Ytpenogailhlcaaa
namespace Fdt
open Go Go.RowKit Sx
attribute [local irreducible] Go.Calls

set_option maxHeartbeats 16000000 in
theorem early_ok {w : World} {g : Nat} {f : Fd} {v : Value} (h : FAt w g f v) (hl : f.es.length ≤ 1000) (ht : Turn f) {i : Nat} {k : Kt} {s0 : Int} (hi : f.es[i]? = some (k, s0)) :
    Calls Try.prog 31 #[.pointer (some ⟨g, 0, none⟩), I i] w fun e w' => e = .returned (.bool (blkB f k i)) ∧ Below w.heap.size w w' := by
  have hF := fun w' (hb : Below w.heap.size w w') => h.below hb
  have hrw := h.row
  have lt := h.lt
  have c0 := h.c0
  obtain ⟨aV, cV, rfl, hat⟩ := h.cells
  refine callsCS (args := [.pointer (some ⟨g, 0, none⟩), I i]) Try.func31 rfl rfl rfl rfl ?_
  repeat' (first | refine aw_seq ?_ | ((first | apply ao_val | apply aq_val); exact wants_a; (first | exact ov_nilcheck rfl | exact ov_peqs rfl rfl | exact ov_a); (exact rfl)) | refine zy ?_ | refine zon fun _ => ?_ | refine zoa fun vr lr hr => ?_ | ((apply ao_callD; exact wants_a; (exact oc_func rfl); (exact rfl); (intro w hw; exact ahead_ok (some ⟨g, 0, none⟩) i w); rintro _ _ ⟨bx, dx, cx, rfl, rfl⟩)) | refine zoS (fun _ => ?_) (fun _ => ?_) | refine zqS (fun _ => ?_) (fun _ => ?_) | refine zwS (fun _ => ?_) (fun _ => ?_))
  rename_i b2 b4
  refine aw_range (gf := 34) (bs := []) (lb := [.pointer (some ⟨bx, 0, none⟩), .pointer (some ⟨dx, 0, none⟩), .pointer (some ⟨cx, 0, none⟩)]) rfl fun l r e1 e2 e3 hts => ?_
  refine CallsH.mono (ahead_it (f := f) (k := k) (s0 := s0) hl (by rw [e1]; rfl)
    (fun j H => (∀ m : Nat, j < m → m < i → (keysF f)[m]? = some k → opB f m = false) ∧ H.Perm ((l, Lp r .ready none) :: (cx, boxS (some ⟨g, 0, none⟩)) :: (dx, .cells #[I i] 3 (0, 0)) :: (bx, boxP (some ⟨g, 0, none⟩)) :: (b4, .cells #[.bool false] 4 (0, 0)) :: (b2, boxP (some ⟨g, 0, none⟩)) :: []))
    (fun H => blkB f k i = true ∧ H.Perm ((l, Lp r .done (some .ret)) :: (cx, boxS (some ⟨g, 0, none⟩)) :: (dx, .cells #[I i] 3 (0, 0)) :: (bx, boxP (some ⟨g, 0, none⟩)) :: (b4, .cells #[.bool true] 4 (0, 0)) :: (b2, boxP (some ⟨g, 0, none⟩)) :: []))
    ?_ (fun j H _ w' hw => hF w' hw.below) hrw hi ?_ _ ?_) ?_
  · rintro j H ⟨-, hp⟩
    exact ⟨has_perm hp has_a, has_perm hp has_a, has_perm hp has_a, has_perm hp has_a⟩
  · rintro j s H hj he hsb ⟨hno, hp⟩
    refine RoundH.perm hp ?_
    refine roundH_of (E := ⟨w.heap.size, w, Try.f31.ntmps⟩) (ps := [11]) e1 rfl (by rw [e2]; rfl) (by rw [e3]; rfl) hts ?_
    rw [e2, e3]
    simp only [putTm]
    repeat' (first | refine aw_seq ?_ | ((first | apply ao_val | apply aq_val); exact wants_a; (first | exact ov_nilcheck rfl | exact ov_a); (exact rfl)) | refine zy ?_ | refine zon fun _ => ?_ | refine zoa fun vr lr hr => ?_ | refine zoS (fun _ => ?_) (fun _ => ?_) | refine zqS (fun _ => ?_) (fun _ => ?_) | refine zwS (fun _ => ?_) (fun _ => ?_))
    refine asg_done has_a upd_a ?_
    obtain ⟨g1, o1, rfl, hg, -, c3⟩ := hat j k s (j : Int) he rfl
    have hjl := (List.getElem?_eq_some_iff.1 he).1
    have hob := opB_at he
    rw [hsb, Bool.not_false, Bool.and_true] at hob
    by_cases h0 : s = 0
    · subst h0
      have hblk := blk_t (k := k) he hj hob rfl
      repeat' (first | refine aw_seq ?_ | ((first | apply ao_val | apply aq_val); exact wants_a; (first | exact ov_nilcheck rfl | exact ov_a); (exact rfl)) | refine zy ?_ | refine zon fun _ => ?_ | refine zoa fun vr lr hr => ?_ | refine zoS (fun _ => ?_) (fun _ => ?_) | refine zqS (fun _ => ?_) (fun _ => ?_) | refine zwS (fun _ => ?_) (fun _ => ?_))
      exact rq_ret has_a upd_a hsub_a (Or.inr ⟨rfl, hblk, List.Perm.refl _⟩)
    · rw [decide_eq_false h0] at hob
      have e0 : (s == 0) = false := beq_eq_false_iff_ne.2 h0
      have hno2 : ∀ m : Nat, prevK (keysF f) k j < m → m < i → (keysF f)[m]? = some k → opB f m = false := fun m h1 h2 h3 => by
        by_cases h4 : j < m
        · exact hno m (by omega) h2 h3
        by_cases h5 : m = j
        · rw [h5]; exact hob
        rcases prev_spec (keysF f) k j with ⟨-, h6⟩ | ⟨p, h6, h7, -, h8⟩
        · exact absurd h3 (h6 m (by omega))
        · exact absurd h3 (h8 m (by omega) (by omega))
      repeat' (first | refine aw_seq ?_ | ((first | apply ao_val | apply aq_val); exact wants_a; (first | exact ov_nilcheck rfl | exact ov_a); (exact rfl)) | refine zy ?_ | refine zon fun _ => ?_ | refine zoa fun vr lr hr => ?_ | refine zoS (fun _ => ?_) (fun _ => ?_) | refine zqS (fun _ => ?_) (fun _ => ?_) | refine zwS (fun _ => ?_) (fun _ => ?_))
      exact rq_normal has_a upd_a hsub_a (Or.inl ⟨rfl, hno2, List.Perm.refl _⟩)
  · refine ⟨fun m h1 h2 h3 => ?_, List.Perm.refl _⟩
    rcases prev_spec (keysF f) k i with ⟨-, h6⟩ | ⟨p, h6, h7, -, h8⟩
    · exact absurd h3 (h6 m h2)
    · exact absurd h3 (h8 m (by omega) h2)
  · rintro v H' ⟨-, ⟨j, hj, hno, hp⟩ | ⟨hb, hp⟩⟩
    · refine ⟨.ready, none, _, by simp, hp, ?_⟩
      have hB : blkB f k i = false := by
        refine no_blk fun m hm hmk => ?_
        rcases hj with rfl | ⟨n, rfl, hn, hnk, hns⟩
        · exact hno m (by omega) hm hmk
        · by_cases h4 : n < m
          · exact hno m (by omega) hm hmk
          by_cases h5 : m = n
          · obtain ⟨s, hs⟩ := keysF_some hnk
            rw [h5, opB_at hs, hns]
            exact Bool.and_false _
          · exact ht n m k (by omega) hnk hmk hns
      unfold jumpQ
      repeat' (first | refine aw_seq ?_ | refine zz ?_ | refine zon fun _ => ?_ | refine zoa fun vr lr hr => ?_ | refine zoS (fun _ => ?_) (fun _ => ?_) | refine zqS (fun _ => ?_) (fun _ => ?_) | refine zwS (fun _ => ?_) (fun _ => ?_))
      exact rcs_ret rfl has_a fun w' hw => ⟨by rw [hB], hw.below⟩
    · refine ⟨.done, some .ret, _, by simp, hp, ?_⟩
      unfold jumpQ
      repeat' (first | refine aw_seq ?_ | refine zz ?_ | refine zon fun _ => ?_ | refine zoa fun vr lr hr => ?_ | refine zoS (fun _ => ?_) (fun _ => ?_) | refine zqS (fun _ => ?_) (fun _ => ?_) | refine zwS (fun _ => ?_) (fun _ => ?_))
      exact rcs_ret rfl has_a fun w' hw => ⟨by rw [hb], hw.below⟩
set_option maxHeartbeats 8000000 in
theorem has_t {w : World} {g : Nat} {f : Fd} {v : Value} (h : FAt w g f v) {z : Int} (hin : inF f z) :
    Calls Try.prog 30 #[.pointer (some ⟨g, 0, none⟩), I z] w fun e w' => e = .returned (.bool true) ∧ Below w.heap.size w w' := by
  have hF := fun w' (hb : Below w.heap.size w w') => len_ok (h.below hb)
  refine calls1 (args := [.pointer (some ⟨g, 0, none⟩), I z]) Try.func30 rfl rfl rfl rfl ?_
  obtain ⟨h0, h1⟩ := hin
  repeat' (first | refine aw_seq ?_ | refine zz ?_ | refine zon fun _ => ?_ | refine zoa fun vr lr hr => ?_ | ((first | apply ao_call | apply aq_call); exact wants_a; (first | exact oc_func rfl | exact oc_clos rfl rfl | exact oc_bnd rfl rfl); (exact rfl); (first | exact fun w hw => hF w hw.below)) | refine zoS (fun _ => ?_) (fun _ => ?_) | refine zqS (fun _ => ?_) (fun _ => ?_) | refine zwS (fun _ => ?_) (fun _ => ?_))
  exact fun w' hw => ⟨by rw [decide_eq_true h1], hw.below⟩
set_option maxHeartbeats 8000000 in
theorem has_f {w : World} {g : Nat} {f : Fd} {v : Value} (h : FAt w g f v) {z : Int} (hin : ¬ inF f z) :
    Calls Try.prog 30 #[.pointer (some ⟨g, 0, none⟩), I z] w fun e w' => e = .returned (.bool false) ∧ Below w.heap.size w w' := by
  have hF := fun w' (hb : Below w.heap.size w w') => len_ok (h.below hb)
  refine calls1 (args := [.pointer (some ⟨g, 0, none⟩), I z]) Try.func30 rfl rfl rfl rfl ?_
  by_cases h0 : 0 ≤ z
  · have h1 : (f.es.length : Int) ≤ z := by unfold inF at hin; omega
    repeat' (first | refine aw_seq ?_ | refine zz ?_ | refine zon fun _ => ?_ | refine zoa fun vr lr hr => ?_ | ((first | apply ao_call | apply aq_call); exact wants_a; (first | exact oc_func rfl | exact oc_clos rfl rfl | exact oc_bnd rfl rfl); (exact rfl); (first | exact fun w hw => hF w hw.below)) | refine zoS (fun _ => ?_) (fun _ => ?_) | refine zqS (fun _ => ?_) (fun _ => ?_) | refine zwS (fun _ => ?_) (fun _ => ?_))
    exact fun w' hw => ⟨by rw [decide_eq_false (by omega)], hw.below⟩
  · repeat' (first | refine aw_seq ?_ | refine zz ?_ | refine zon fun _ => ?_ | refine zoa fun vr lr hr => ?_ | ((first | apply ao_call | apply aq_call); exact wants_a; (first | exact oc_func rfl | exact oc_clos rfl rfl | exact oc_bnd rfl rfl); (exact rfl); (first | exact fun w hw => hF w hw.below)) | refine zoS (fun _ => ?_) (fun _ => ?_) | refine zqS (fun _ => ?_) (fun _ => ?_) | refine zwS (fun _ => ?_) (fun _ => ?_))
    exact fun w' hw => ⟨rfl, hw.below⟩
theorem has0_ok (n : Int) (w : World) : Calls Try.prog 30 #[.pointer none, I n] w fun e w' => e = .returned (.bool false) ∧ Below w.heap.size w w' := by
  refine calls1 (args := [.pointer none, I n]) Try.func30 rfl rfl rfl rfl ?_
  by_cases h0 : 0 ≤ n
  · repeat' (first | refine aw_seq ?_ | refine zz ?_ | refine zon fun _ => ?_ | refine zoa fun vr lr hr => ?_ | ((first | apply ao_call | apply aq_call); exact wants_a; (first | exact oc_func rfl | exact oc_clos rfl rfl | exact oc_bnd rfl rfl); (exact rfl); (first | exact fun w hw => len0_ok w)) | refine zoS (fun _ => ?_) (fun _ => ?_) | refine zqS (fun _ => ?_) (fun _ => ?_) | refine zwS (fun _ => ?_) (fun _ => ?_))
    exact fun w' hw => ⟨by rw [decide_eq_false (by omega)], hw.below⟩
  · repeat' (first | refine aw_seq ?_ | refine zz ?_ | refine zon fun _ => ?_ | refine zoa fun vr lr hr => ?_ | ((first | apply ao_call | apply aq_call); exact wants_a; (first | exact oc_func rfl | exact oc_clos rfl rfl | exact oc_bnd rfl rfl); (exact rfl); (first | exact fun w hw => len0_ok w)) | refine zoS (fun _ => ?_) (fun _ => ?_) | refine zqS (fun _ => ?_) (fun _ => ?_) | refine zwS (fun _ => ?_) (fun _ => ?_))
    exact fun w' hw => ⟨rfl, hw.below⟩
end Fdt
end Go.Proofs.Ytpenogailhlcaaa
