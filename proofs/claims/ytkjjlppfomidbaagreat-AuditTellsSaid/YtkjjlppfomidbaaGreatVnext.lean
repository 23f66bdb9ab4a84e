/- Contract of the landed Parse of layer 4; conditions: the quantities' table as it was laid, texts of at most 100,000 bytes. -/
import Derived.Test.YtkjjlppfomidbaaGreatVrparse
import Derived.Test.YtkjjlppfomidbaaGreatQsc
import Derived.Test.YtkjjlppfomidbaaGreatScmp
/- Vpparse: Contract of the landed Parse of layer 4; conditions: the quantities' table as it was laid, texts of at most 100,000 bytes. -/
namespace Go.Proofs.YtkjjlppfomidbaaGreat
namespace Vec
open Go Go.RowKit Sx Wid Lab
attribute [local irreducible] Go.Calls
def lastN (out : List Ent) : Nm := match out.getLast? with | none => [] | some r => r.1
theorem up_last {out : List Ent} {m : Nm} (h : rightB m = true) : upB out m = lt (lastN out) m := by
  unfold upB lastN
  cases hg : out.getLast? with
  | some r => rfl
  | none =>
    cases m with
    | nil => simp [rightB] at h
    | cons c m => rfl
theorem lastN_snoc (out : List Ent) (r : Ent) : lastN (out ++ [r]) = r.1 := by simp [lastN]
end Vec
end Go.Proofs.YtkjjlppfomidbaaGreat
/- Vprog: Contracts of the landed code of layer 4: Right, Get, Fits, Same, Within; conditions: names of at most 100,000 bytes, numbers of 128 bits. -/
namespace Go.Proofs.YtkjjlppfomidbaaGreat
namespace Vec
open Go Go.RowKit Sx Wid Lab
attribute [local irreducible] Go.Calls
theorem eq_zero {n : Int} (h : inW n) : eqAll [I (sHi n), .int .u64 (sLo n)] [I 0, .int .u64 0] = (n == 0) := by
  have hz := s_zero h
  simp only [eqAll, eqB]
  rw [Bool.eq_iff_iff]
  simp only [Bool.and_eq_true, beq_iff_eq]
  exact hz
theorem ok_last {es : List Ent} {i : Nat} {e : Ent} (he : es[i]? = some e) : okAt es i = (okE e && lt (lastN (es.take i)) e.1) := by
  unfold okAt
  rw [he]
  cases i with
  | zero =>
    simp only [List.take_zero, Bool.and_true]
    cases h : okE e
    · rfl
    · simp only [okE, Bool.and_eq_true] at h
      have := up_last (out := []) h.1
      rw [← this]; rfl
  | succ k =>
    obtain ⟨p, hp⟩ := getI (show k < es.length by have := (List.getElem?_eq_some_iff.1 he).1; omega)
    simp only [hp]
    rw [take_snoc hp, lastN_snoc]
set_option maxHeartbeats 8000000 in
theorem pright_ok (v : Value) (es : List Ent) (hwf : wfV es) (w : World) (hv : VecAt w v es) : Calls Tryz.prog 51 #[v] w fun e w' => e = .returned (.bool (rightV es)) ∧ Below w.heap.size w w' := by
  have hln := hwf.1
  obtain ⟨a, c, rfl, hat⟩ := OldRow.cells cellsE_len hv
  refine calls1 (args := [.slice a es.length c]) Tryz.func51 rfl rfl rfl rfl ?_
  repeat' (first | refine aw_seq ?_ | refine zz ?_ | refine zon fun _ => ?_ | refine zoa fun vr lr hr => ?_ | refine zoS (fun _ => ?_) (fun _ => ?_) | refine zqS (fun _ => ?_) (fun _ => ?_) | refine zwS (fun _ => ?_) (fun _ => ?_))
  refine aw_for (t0 := [(3, S []), (6, .slice a es.length c), (7, I es.length), (8, I (0 : Nat))]) (fun q t H => ∃ i : Nat, q = es.length - i ∧ i ≤ es.length ∧ (∀ j, j < i → okAt es j = true) ∧ t = [(3, S (lastN (es.take i))), (6, .slice a es.length c), (7, I es.length), (8, I i)] ∧ H = []) ⟨0, rfl, by omega, fun j hj => by omega, rfl, rfl⟩ (by repeat (first | exact sub_nil | refine sub_cons rfl ?_)) ?_
  rintro q t H ⟨i, rfl, hi, hall, rfl, rfl⟩
  by_cases hlt : i < es.length
  · obtain ⟨e, he⟩ := getI hlt
    obtain ⟨g, o, rfl, hg, hc⟩ := hat i e (i : Int) he rfl
    obtain ⟨-, -, -, -, cA⟩ := ent_cells hc
    have hwe := hwf.at he
    have hz := eq_zero hwe.2
    have hok := ok_last he
    have hln2 := take_snoc he
    have hrr := fun w => Lab.right_ok e.1 w
    generalize hla : lastN (es.take i) = la at hok
    cases hr : rightB e.1
    · rw [right_f hlt (by rw [hok]; simp [okE, hr])]
      rw [hr] at hrr
      repeat' (first | refine aw_seq ?_ | ((first | apply ao_val | apply aq_val); exact wants_a; (first | exact ov_load_oa rfl hg cA rfl | exact ov_a); (exact rfl)) | refine zy ?_ | refine zon fun _ => ?_ | refine zoa fun vr lr hr => ?_ | ((first | apply ao_call | apply aq_call); exact wants_a; (first | exact oc_func rfl | exact oc_clos rfl rfl | exact oc_bnd rfl rfl); (exact rfl); (first | exact fun w hw => hrr w)) | refine zoS (fun _ => ?_) (fun _ => ?_) | refine zqS (fun _ => ?_) (fun _ => ?_) | refine zwS (fun _ => ?_) (fun _ => ?_))
      exact fun w' hw => ⟨rfl, hw.below⟩
    rw [hr] at hrr
    cases hl : lt la e.1
    · rw [right_f hlt (by rw [hok, hl]; simp)]
      have hlb : (Op.bytesLess e.1 la || e.1 == la) = true := by rw [leq_lt, hl]; rfl
      repeat' (first | refine aw_seq ?_ | ((first | apply ao_val | apply aq_val); exact wants_a; (first | exact ov_load_oa rfl hg cA rfl | exact ov_a); (exact rfl)) | refine zy ?_ | refine zon fun _ => ?_ | refine zoa fun vr lr hr => ?_ | ((first | apply ao_call | apply aq_call); exact wants_a; (first | exact oc_func rfl | exact oc_clos rfl rfl | exact oc_bnd rfl rfl); (exact rfl); (first | exact fun w hw => hrr w)) | refine zoS (fun _ => ?_) (fun _ => ?_) | refine zqS (fun _ => ?_) (fun _ => ?_) | refine zwS (fun _ => ?_) (fun _ => ?_))
      exact fun w' hw => ⟨rfl, hw.below⟩
    have hlb : (Op.bytesLess e.1 la || e.1 == la) = false := by rw [leq_lt, hl]; rfl
    by_cases hn : e.2 = 0
    · rw [right_f hlt (by rw [hok]; simp [okE, hn])]
      rw [beq_iff_eq.2 hn] at hz
      repeat' (first | refine aw_seq ?_ | ((first | apply ao_val | apply aq_val); exact wants_a; (first | exact ov_load_oa rfl hg cA rfl | exact ov_a); (exact rfl)) | refine zy ?_ | refine zon fun _ => ?_ | refine zoa fun vr lr hr => ?_ | ((first | apply ao_call | apply aq_call); exact wants_a; (first | exact oc_func rfl | exact oc_clos rfl rfl | exact oc_bnd rfl rfl); (exact rfl); (first | exact fun w hw => hrr w)) | refine zoS (fun _ => ?_) (fun _ => ?_) | refine zqS (fun _ => ?_) (fun _ => ?_) | refine zwS (fun _ => ?_) (fun _ => ?_))
      exact fun w' hw => ⟨rfl, hw.below⟩
    rw [beq_eq_false_iff_ne.2 hn] at hz
    repeat' (first | refine aw_seq ?_ | ((first | apply ao_val | apply aq_val); exact wants_a; (first | exact ov_load_oa rfl hg cA rfl | exact ov_a); (exact rfl)) | refine zy ?_ | refine zon fun _ => ?_ | refine zoa fun vr lr hr => ?_ | ((first | apply ao_call | apply aq_call); exact wants_a; (first | exact oc_func rfl | exact oc_clos rfl rfl | exact oc_bnd rfl rfl); (exact rfl); (first | exact fun w hw => hrr w)) | refine zoS (fun _ => ?_) (fun _ => ?_) | refine zqS (fun _ => ?_) (fun _ => ?_) | refine zwS (fun _ => ?_) (fun _ => ?_))
    exact lq_normal' ⟨i + 1, rfl, by omega, fun j hj => by
      by_cases e1 : j = i
      · subst e1; rw [hok, hl]; simp [okE, hr, hn]
      · exact hall j (by omega), rfl, rfl⟩ (by omega) (sub_cons' rfl (by rw [hln2, lastN_snoc]) (by repeat (first | exact sub_nil | refine sub_cons rfl ?_))) hsub_a
  · obtain rfl : i = es.length := by omega
    rw [right_t hall]
    repeat' (first | refine aw_seq ?_ | refine zz ?_ | refine zon fun _ => ?_ | refine zoa fun vr lr hr => ?_ | refine zoS (fun _ => ?_) (fun _ => ?_) | refine zqS (fun _ => ?_) (fun _ => ?_) | refine zwS (fun _ => ?_) (fun _ => ?_))
    exact fun w' hw => ⟨rfl, hw.below⟩
theorem fitsP (x : Int) (hx : inW x) (w : World) : Calls Tryz.prog 50 #[WV x] w fun e w' => e = .returned (fitsV x) ∧ Below w.heap.size w w' := by
  have := Wid.fits_ok (sHi x) (sLo x) (s_isW x) w
  rwa [s_num, sN_in hx] at this
set_option maxHeartbeats 8000000 in
theorem pfits_ok (v : Value) (es : List Ent) (hw1 : wfV es) (w : World) (hv : VecAt w v es) :
    Calls Tryz.prog 22 #[v] w fun e w' => e = .returned (.bool (vfitsB es)) ∧ Below w.heap.size w w' := by
  have hln := hw1.1
  obtain ⟨a, c, hv', hat⟩ := OldRow.cells cellsE_len hv
  refine calls1 (args := [v]) Tryz.func22 rfl rfl rfl rfl ?_
  subst hv'
  repeat' (first | refine aw_seq ?_ | refine zz ?_ | refine zon fun _ => ?_ | refine zoa fun vr lr hr => ?_ | refine zoS (fun _ => ?_) (fun _ => ?_) | refine zqS (fun _ => ?_) (fun _ => ?_) | refine zwS (fun _ => ?_) (fun _ => ?_))
  refine aw_for (t0 := [(0, .slice a es.length c), (7, .slice a es.length c), (8, I es.length), (9, I (0 : Nat))]) (fun q t H => ∃ (i : Nat), q = es.length - i ∧ i ≤ es.length ∧ (∀ (j : Nat) (e : Ent), j < i → es[j]? = some e → inI e.2 = true) ∧ t = [(0, .slice a es.length c), (7, .slice a es.length c), (8, I es.length), (9, I i)] ∧ H = []) ⟨0, rfl, by omega, fun j e h => by omega, rfl, rfl⟩ (by repeat (first | exact sub_nil | refine sub_cons rfl ?_)) ?_
  rintro q t H ⟨i, rfl, hi, hall, rfl, rfl⟩
  by_cases hlt : i < es.length
  · obtain ⟨e, he⟩ := getI hlt
    obtain ⟨g, o, rfl, hg, hc⟩ := hat i e (i : Int) he rfl
    obtain ⟨-, -, -, -, cA⟩ := ent_cells hc
    have hwe := hw1.at he
    cases hx : inI e.2
    · have hq : vfitsB es = false := by
        unfold vfitsB
        rw [show (es.all fun e => inI e.2) = false from List.all_eq_false.2 ⟨e, List.mem_of_getElem? he, by rw [hx]; decide⟩]
        rfl
      rw [hq]
      have hf : ∀ w, Calls Tryz.prog 50 #[WV e.2] w fun e w' => e = .returned (.tuple #[I 0, .bool false]) ∧ Below w.heap.size w w' := fun w => fitsV_f hx ▸ fitsP e.2 hwe.2 w
      repeat' (first | refine aw_seq ?_ | ((first | apply ao_val | apply aq_val); exact wants_a; (first | exact ov_load_oa rfl hg cA rfl | exact ov_a); (exact rfl)) | refine zy ?_ | refine zon fun _ => ?_ | refine zoa fun vr lr hr => ?_ | ((first | apply ao_call | apply aq_call); exact wants_a; (first | exact oc_func rfl | exact oc_clos rfl rfl | exact oc_bnd rfl rfl); (exact rfl); (first | exact fun w hw => hf w)) | refine zoS (fun _ => ?_) (fun _ => ?_) | refine zqS (fun _ => ?_) (fun _ => ?_) | refine zwS (fun _ => ?_) (fun _ => ?_))
      exact fun w' hw => ⟨rfl, hw.below⟩
    · have hf : ∀ w, Calls Tryz.prog 50 #[WV e.2] w fun u w' => u = .returned (.tuple #[I e.2, .bool true]) ∧ Below w.heap.size w w' := fun w => fitsV_t hx ▸ fitsP e.2 hwe.2 w
      repeat' (first | refine aw_seq ?_ | ((first | apply ao_val | apply aq_val); exact wants_a; (first | exact ov_load_oa rfl hg cA rfl | exact ov_a); (exact rfl)) | refine zy ?_ | refine zon fun _ => ?_ | refine zoa fun vr lr hr => ?_ | ((first | apply ao_call | apply aq_call); exact wants_a; (first | exact oc_func rfl | exact oc_clos rfl rfl | exact oc_bnd rfl rfl); (exact rfl); (first | exact fun w hw => hf w)) | refine zoS (fun _ => ?_) (fun _ => ?_) | refine zqS (fun _ => ?_) (fun _ => ?_) | refine zwS (fun _ => ?_) (fun _ => ?_))
      exact lq_normal' ⟨i + 1, rfl, by omega, fun j x hj hx2 => by
        by_cases e1 : j = i
        · subst e1; rw [he] at hx2; cases hx2; exact hx
        · exact hall j x (by omega) hx2, rfl, rfl⟩ (by omega) (by repeat (first | exact sub_nil | refine sub_cons rfl ?_)) hsub_a
  · obtain rfl : i = es.length := by omega
    have hq : vfitsB es = rightV es := by
      unfold vfitsB
      rw [show (es.all fun e => inI e.2) = true from List.all_eq_true.2 fun x hx => by
        obtain ⟨j, hj⟩ := List.getElem?_of_mem hx
        exact hall j x (List.getElem?_eq_some_iff.1 hj).1 hj]
      exact Bool.true_and _
    rw [hq]
    repeat' (first | refine aw_seq ?_ | refine zz ?_ | refine zon fun _ => ?_ | refine zoa fun vr lr hr => ?_ | ((first | apply ao_call | apply aq_call); exact wants_a; (first | exact oc_func rfl | exact oc_clos rfl rfl | exact oc_bnd rfl rfl); (exact rfl); (first | exact fun w hw => pright_ok _ es hw1 w (hv.below hw.below))) | refine zoS (fun _ => ?_) (fun _ => ?_) | refine zqS (fun _ => ?_) (fun _ => ?_) | refine zwS (fun _ => ?_) (fun _ => ?_))
    exact fun w' hw => ⟨rfl, hw.below⟩
set_option maxHeartbeats 4000000 in
theorem equal_ok (v u : Value) (es fs : List Ent) (hw1 : wfV es) (hw2 : wfV fs) (w : World) (hv : VecAt w v es) (hu : VecAt w u fs) : Calls Tryz.prog 160 #[v, u] w fun e w' => e = .returned (.bool (es == fs)) ∧ Below w.heap.size w w' := by
  have hln := hw1.1
  have hln2 := hw2.1
  obtain ⟨a, c, rfl, hat⟩ := OldRow.cells cellsE_len hv
  obtain ⟨a2, c2, rfl, hat2⟩ := OldRow.cells cellsE_len hu
  refine calls1 (args := [.slice a es.length c, .slice a2 fs.length c2]) Tryz.func160 rfl rfl rfl rfl ?_
  by_cases hlen : es.length = fs.length
  · rw [← hlen]
    have hle : ((es.length : Int) != (es.length : Int)) = false := bne_self_eq_false _
    repeat' (first | refine aw_seq ?_ | refine zz ?_ | refine zon fun _ => ?_ | refine zoa fun vr lr hr => ?_ | refine zoS (fun _ => ?_) (fun _ => ?_) | refine zqS (fun _ => ?_) (fun _ => ?_) | refine zwS (fun _ => ?_) (fun _ => ?_))
    refine aw_for (t0 := [(0, .slice a es.length c), (1, .slice a2 es.length c2), (12, I es.length), (13, I (0 : Nat))]) (fun q t H => ∃ (i : Nat), q = es.length - i ∧ i ≤ es.length ∧ es.take i = fs.take i ∧ t = [(0, .slice a es.length c), (1, .slice a2 es.length c2), (12, I es.length), (13, I i)] ∧ H = []) ⟨0, rfl, by omega, rfl, rfl, rfl⟩ (by repeat (first | exact sub_nil | refine sub_cons rfl ?_)) ?_
    rintro q t H ⟨i, rfl, hi, htake, rfl, rfl⟩
    by_cases hlt : i < es.length
    · obtain ⟨e, he⟩ := getI hlt
      obtain ⟨f, hf⟩ := getI (show i < fs.length by omega)
      obtain ⟨g, o, rfl, hg, hc⟩ := hat i e (i : Int) he rfl
      obtain ⟨g2, o2, rfl, hg2, hc2⟩ := hat2 i f (i : Int) hf rfl
      obtain ⟨-, -, -, -, cA⟩ := ent_cells hc
      obtain ⟨-, -, -, -, cB⟩ := ent_cells hc2
      by_cases hef : e = f
      · subst hef
        repeat' (first | refine aw_seq ?_ | ((first | apply ao_val | apply aq_val); exact wants_a; (first | exact ov_load_oa rfl hg cA rfl | exact ov_load_oa rfl hg2 cB rfl | exact ov_a); (exact rfl)) | refine zy ?_ | refine zon fun _ => ?_ | refine zoa fun vr lr hr => ?_ | refine zoS (fun _ => ?_) (fun _ => ?_) | refine zqS (fun _ => ?_) (fun _ => ?_) | refine zwS (fun _ => ?_) (fun _ => ?_))
        exact lq_normal ⟨i + 1, rfl, by omega, by rw [List.take_add_one, List.take_add_one, htake, he, hf], rfl, rfl⟩ (by omega) (by repeat (first | exact sub_nil | refine sub_cons rfl ?_))
      · have hne : es ≠ fs := fun h => by rw [h, hf] at he; cases he; exact hef rfl
        rw [show (es == fs) = false from beq_eq_false_iff_ne.2 hne]
        have hb := eqAll_ne (hw1.at he).2 (hw2.at hf).2 hef
        repeat' (first | refine aw_seq ?_ | ((first | apply ao_val | apply aq_val); exact wants_a; (first | exact ov_load_oa rfl hg cA rfl | exact ov_load_oa rfl hg2 cB rfl | exact ov_a); (exact rfl)) | refine zy ?_ | refine zon fun _ => ?_ | refine zoa fun vr lr hr => ?_ | refine zoS (fun _ => ?_) (fun _ => ?_) | refine zqS (fun _ => ?_) (fun _ => ?_) | refine zwS (fun _ => ?_) (fun _ => ?_))
        exact fun w' hw => ⟨rfl, hw.below⟩
    · obtain rfl : i = es.length := by omega
      have : es = fs := by rw [List.take_length, hlen, List.take_length] at htake; exact htake
      rw [show (es == fs) = true from beq_iff_eq.2 this]
      repeat' (first | refine aw_seq ?_ | refine zz ?_ | refine zon fun _ => ?_ | refine zoa fun vr lr hr => ?_ | refine zoS (fun _ => ?_) (fun _ => ?_) | refine zqS (fun _ => ?_) (fun _ => ?_) | refine zwS (fun _ => ?_) (fun _ => ?_))
      exact fun w' hw => ⟨rfl, hw.below⟩
  · have hle : ((es.length : Int) != (fs.length : Int)) = true := bne_iff_ne.2 (by omega)
    rw [show (es == fs) = false from beq_eq_false_iff_ne.2 fun h => hlen (by rw [h])]
    repeat' (first | refine aw_seq ?_ | refine zz ?_ | refine zon fun _ => ?_ | refine zoa fun vr lr hr => ?_ | refine zoS (fun _ => ?_) (fun _ => ?_) | refine zqS (fun _ => ?_) (fun _ => ?_) | refine zwS (fun _ => ?_) (fun _ => ?_))
    exact fun w' hw => ⟨rfl, hw.below⟩
set_option maxHeartbeats 1000000 in
theorem psame_ok (v u : Value) (es fs : List Ent) (hw1 : wfV es) (hw2 : wfV fs) (w : World) (hv : VecAt w v es) (hu : VecAt w u fs) : Calls Tryz.prog 133 #[v, u] w fun e w' => e = .returned (.bool (es == fs)) ∧ Below w.heap.size w w' := by
  refine calls1 (args := [v, u]) Tryz.func133 rfl rfl rfl rfl ?_
  repeat' (first | refine aw_seq ?_ | refine zz ?_ | refine zon fun _ => ?_ | refine zoa fun vr lr hr => ?_ | ((first | apply ao_call | apply aq_call); exact wants_a; (first | exact oc_func rfl | exact oc_clos rfl rfl | exact oc_bnd rfl rfl); (exact rfl); (first | exact fun w hw => equal_ok v u es fs hw1 hw2 w (hv.below hw.below) (hu.below hw.below))) | refine zoS (fun _ => ?_) (fun _ => ?_) | refine zqS (fun _ => ?_) (fun _ => ?_) | refine zwS (fun _ => ?_) (fun _ => ?_))
  exact fun w' hw => ⟨rfl, hw.below⟩
end Vec
end Go.Proofs.YtkjjlppfomidbaaGreat
/- Vwithin: Contract of the landed Within of layer 4; conditions: names of at most 100,000 bytes, numbers of 128 bits. -/
namespace Go.Proofs.YtkjjlppfomidbaaGreat
namespace Vec
open Go Go.RowKit Sx Wid Lab
attribute [local irreducible] Go.Calls
theorem rise_of : ∀ {es : List Ent}, (∀ (j : Nat) (p e : Ent), es[j]? = some p → es[j + 1]? = some e → lt p.1 e.1 = true) → Rise es
  | [], _ => List.Pairwise.nil
  | [a], _ => by unfold Rise; simp
  | a :: b :: r, h => by
    have ih : Rise (b :: r) := rise_of fun j p e hp he => h (j + 1) p e (by simpa using hp) (by simpa using he)
    have hab := h 0 a b rfl rfl
    unfold Rise at ih ⊢
    rw [List.pairwise_cons]
    refine ⟨fun x hx => ?_, ih⟩
    rcases List.mem_cons.1 hx with rfl | hx
    · exact hab
    · exact lt_trans hab ((List.pairwise_cons.1 ih).1 x hx)
theorem right_all {es : List Ent} (h : rightV es = true) : ∀ j, j < es.length → okAt es j = true := by
  unfold rightV at h
  rw [List.all_eq_true] at h
  exact fun j hj => h j (List.mem_range.2 hj)
theorem right_rise {es : List Ent} (h : rightV es = true) : Rise es := rise_of fun j p e hp he => by
  have := right_all h (j + 1) (List.getElem?_eq_some_iff.1 he).1
  unfold okAt at this
  rw [he] at this
  simp only [hp, Bool.and_eq_true] at this
  exact this.2
theorem right_ok {es : List Ent} (h : rightV es = true) {e : Ent} (he : e ∈ es) : rightB e.1 = true ∧ e.2 ≠ 0 := by
  obtain ⟨j, hj⟩ := List.getElem?_of_mem he
  have := right_all h j (List.getElem?_eq_some_iff.1 hj).1
  unfold okAt at this
  rw [hj] at this
  simp only [Bool.and_eq_true, okE] at this
  exact ⟨this.1.1, by simpa using this.1.2⟩
theorem rise_at {es : List Ent} (h : Rise es) {i j : Nat} {a b : Ent} (ha : es[i]? = some a) (hb : es[j]? = some b) (hij : i < j) : lt a.1 b.1 = true := by
  obtain ⟨h1, rfl⟩ := List.getElem?_eq_some_iff.1 ha
  obtain ⟨h2, rfl⟩ := List.getElem?_eq_some_iff.1 hb
  exact List.pairwise_iff_getElem.1 h i j h1 h2 hij
end Vec
end Go.Proofs.YtkjjlppfomidbaaGreat
/- Vnext: Contract of the closure that takes the least name that is left, layer 4; conditions: names of at most 100,000 bytes, numbers of 128 bits, slices with room for no less than they have. -/
namespace Go.Proofs.YtkjjlppfomidbaaGreat
namespace Vec
open Go Go.RowKit Sx Wid Lab
attribute [local irreducible] Go.Calls
def VecCap (w : World) (v : Value) (es : List Ent) : Prop := OldCap w 3 v es.length (vcells es)
theorem VecCap.vec {w : World} {v : Value} {es : List Ent} (h : VecCap w v es) : VecAt w v es := h.1
theorem VecCap.below {w w' : World} {v : Value} {es : List Ent} (h : VecCap w v es) (hb : Below w.heap.size w w') : VecCap w' v es := OldCap.below h hb
theorem VecCap.tail {w : World} {v : Value} {e : Ent} {es : List Ent} (h : VecCap w v (e :: es)) : VecCap w (tlS 3 v) es := OldCap.tail h
abbrev BX (b : Nat) (v : Value) : Nat × Obj := (b, .cells #[v] 48 (0, 0))
theorem zeroL : [Value.int IntKind.i64 0, Value.int IntKind.u64 0] = [I (sHi 0), .int .u64 (sLo 0)] := by kernel_rfl
set_option maxHeartbeats 16000000 in
theorem next_a1 (E : Env) (hE : E.B = E.w0.heap.size) (ga gb : Nat) (va vb : Value) (e : Ent) (es : List Ent) (h1 : VecCap E.w0 va (e :: es)) (h2 : VecCap E.w0 vb []) (hl1 : es.length ≤ 100000) :
    CallsF Tryz.prog E 164 [.pointer (some ⟨gb, 0, none⟩), .pointer (some ⟨ga, 0, none⟩)] [BX gb vb, BX ga va]
      (.tuple #[S e.1, WV e.2, WV 0]) [BX gb vb, BX ga (tlS 3 va)] := by
  obtain ⟨B, w0, m⟩ := E
  have hE : B = w0.heap.size := hE
  subst hE
  obtain ⟨a, c, rfl, hat⟩ := OldRow.cells cellsE_len h1.vec
  obtain ⟨a2, c2, rfl, hat2⟩ := OldRow.cells cellsE_len h2.vec
  obtain ⟨g, o, rfl, hg, hc⟩ := hat 0 e 0 rfl rfl
  obtain ⟨c0, -, -, cW, -⟩ := ent_cells hc
  have hlen : (e :: es).length = es.length + 1 := rfl
  have hn0 : (([] : List Ent).length : Int) = 0 := rfl
  refine callsFT (rt := 94) Tryz.func164 rfl rfl rfl rfl fun R => ?_
  show aw _ _ _ _ _ (_ :: _ :: R)
  repeat' (first | (apply ao_nilh; exact hsub_a) | apply ao_nil | apply aq_nil | apply ah_end | ((first | apply ao_val | apply aq_val | (apply ah_take; (exact rfl))); exact wants_a; (first | exact ov_load_oa rfl hg cW rfl | exact ov_sltail rfl rfl (by simp) | exact ov_a); (exact rfl)) | ((first | apply ao_skip | apply aq_skip | (apply ah_skip; (exact rfl))); exact nots_a; (exact rfl)) | (refine ao_is ?_; first | (apply ao_new; exact wants_a; exact on_a; (exact rfl); intro _) | (apply ao_store; exact wants_a; exact ow_a; exact upd_a) | (apply ao_valw; exact wants_a; exact ox_a; (exact rfl); exact upd_a) | (apply ao_skip0; exact nots_a) | (apply ao_append; exact wants_a; (exact rfl); assumption; (exact rfl); exact cut_a; exact has_a; (exact rfl); (exact rfl); omega; omega; omega; (exact rfl); intro vr lr hr)) | (apply ah_one; (exact rfl)) | (apply ah_two; (exact rfl); (exact rfl)) | (apply ah_three; (exact rfl); (exact rfl); (exact rfl)) | (refine aw_is ?_; first | (apply aw_held (id := 7) (pl := (.v 0 (.t 1 (.t 2 (.t 3 (.t 10 (.w 4 (.t 5 (.t 6 (.t 7 (.w 8 (.t 9 (.o 11 (.o 12 .e))) 11 (.o 8 (.t 9 (.o 12 .e))))))) 8 (.t 9 (.o 4 (.t 5 (.t 6 (.t 7 (.o 11 (.o 12 .e)))))))))))) 4 (.t 5 (.t 6 (.t 7 (.w 0 (.t 1 (.t 2 (.t 3 (.t 10 (.w 8 (.t 9 (.o 11 (.o 12 .e))) 11 (.o 8 (.t 9 (.o 12 .e)))))))) 8 (.t 9 (.o 0 (.t 1 (.t 2 (.t 3 (.t 10 (.o 11 (.o 12 .e)))))))))))) 8 (.t 9 (.w 0 (.t 1 (.t 2 (.t 3 (.t 10 (.o 4 (.t 5 (.t 6 (.t 7 (.o 11 (.o 12 .e)))))))))) 4 (.t 5 (.t 6 (.t 7 (.o 0 (.t 1 (.t 2 (.t 3 (.t 10 (.o 11 (.o 12 .e)))))))))))))); (kernel_rfl); (kernel_rfl); (kernel_rfl); (solve | (apply hs_keep; apply hs_skip; apply hs_keep; apply hs_skip; exact List.Sublist.refl _))) | (apply aw_held (id := 10) (pl := (.t 0 (.t 1 (.t 2 (.t 3 (.o 4 (.o 5 .e))))))); (kernel_rfl); (kernel_rfl); (kernel_rfl); (solve | (exact List.Sublist.refl _))) | refine aw_seq ?_ | refine aw_block ?_ | refine aw_region ?_ | refine aw_skip ?_ | refine aw_exit ?_ | refine aw_ret ?_ | refine aw_label ?_ | refine aw_scope ?_ | refine aw_cond_t rfl (by with_reducible rfl) ?_ | refine aw_cond_f rfl (by with_reducible rfl) ?_ | refine aw_draw (by kernel_rfl) (by kernel_rfl) ?_) | (first | (refine ah_is ?_; (fail_if_success first | refine ah_glit (b := true) rfl rfl rfl (by with_reducible rfl) ?_ | refine ah_glit (b := false) rfl rfl rfl (by with_reducible rfl) ?_); apply ah_gt; (exact rfl); (exact rfl); (exact rfl); exact t_a) | ((refine ao_is ?_; (fail_if_success first | refine ao_glit (b := true) rfl rfl (by with_reducible rfl) ?_ | refine ao_glit (b := false) rfl rfl (by with_reducible rfl) ?_)); apply ao_gt; (exact rfl); (exact rfl); exact t_a) | ((refine aq_is ?_; (fail_if_success first | refine aq_glit (b := true) rfl rfl (by with_reducible rfl) ?_ | refine aq_glit (b := false) rfl rfl (by with_reducible rfl) ?_)); apply aq_gt; (exact rfl); (exact rfl); exact t_a) | (apply aw_ct; (exact rfl); exact t_a)) | (first | (refine ah_is ?_; (fail_if_success first | refine ah_glit (b := true) rfl rfl rfl (by with_reducible rfl) ?_ | refine ah_glit (b := false) rfl rfl rfl (by with_reducible rfl) ?_); apply ah_gf; (exact rfl); (exact rfl); (exact rfl); exact f_a) | ((refine ao_is ?_; (fail_if_success first | refine ao_glit (b := true) rfl rfl (by with_reducible rfl) ?_ | refine ao_glit (b := false) rfl rfl (by with_reducible rfl) ?_)); apply ao_gf; (exact rfl); (exact rfl); exact f_a) | ((refine aq_is ?_; (fail_if_success first | refine aq_glit (b := true) rfl rfl (by with_reducible rfl) ?_ | refine aq_glit (b := false) rfl rfl (by with_reducible rfl) ?_)); apply aq_gf; (exact rfl); (exact rfl); exact f_a) | (apply aw_cf; (exact rfl); exact f_a)) | refine at_normal ?_ | refine at_exit ?_ | refine at_ret ?_ | refine ib_normal ?_ | refine ib_exit ?_ | refine ib_other ?_ | refine ib_ret ?_ | refine lq_exit ?_ | refine lq_ret ?_ | refine ci_ret ?_ | refine ci_exit ?_ | refine r1_ret rfl ?_ | refine r1_normal rfl ?_ | refine r2_ret rfl rfl ?_ | refine r2_normal rfl rfl ?_ | refine r3_ret rfl rfl rfl ?_ | refine r3_normal rfl rfl rfl ?_ | refine ng_normal ?_ | refine ng_exit ?_ | refine ng_ret ?_ | (apply rt_ret; (exact rfl); (exact rfl); (exact rfl); exact has_a; exact has_a; (exact rfl); (exact rfl)) | (apply rc1_ret; (exact rfl); exact has_a; (exact rfl)) | (apply rc2_ret; (exact rfl); exact has_a; (exact rfl); (exact rfl)) | (refine ao_is ?_; (fail_if_success first | refine ao_glit (b := true) rfl rfl (by with_reducible rfl) ?_ | refine ao_glit (b := false) rfl rfl (by with_reducible rfl) ?_); refine ao_gbool rfl rfl (fun _ => ?_) (fun _ => ?_)) | (refine aq_is ?_; (fail_if_success first | refine aq_glit (b := true) rfl rfl (by with_reducible rfl) ?_ | refine aq_glit (b := false) rfl rfl (by with_reducible rfl) ?_); refine aq_gbool rfl rfl (fun _ => ?_) (fun _ => ?_)) | (refine aw_is ?_; refine aw_cond rfl (fun _ => ?_) (fun _ => ?_)))
  all_goals exact ⟨rfl, rfl, zeroL, hs_skip _ (hs_skip _ (List.Sublist.refl _))⟩
set_option maxHeartbeats 16000000 in
theorem next_a (E : Env) (hE : E.B = E.w0.heap.size) (ga gb : Nat) (va vb : Value) (e : Ent) (es : List Ent) (f : Ent) (fs : List Ent) (h1 : VecCap E.w0 va (e :: es)) (h2 : VecCap E.w0 vb (f :: fs)) (hl1 : es.length ≤ 100000) (hl2 : fs.length ≤ 100000) (hlt : lt e.1 f.1 = true) :
    CallsF Tryz.prog E 164 [.pointer (some ⟨gb, 0, none⟩), .pointer (some ⟨ga, 0, none⟩)] [BX gb vb, BX ga va]
      (.tuple #[S e.1, WV e.2, WV 0]) [BX gb vb, BX ga (tlS 3 va)] := by
  obtain ⟨B, w0, m⟩ := E
  have hE : B = w0.heap.size := hE
  subst hE
  obtain ⟨a, c, rfl, hat⟩ := OldRow.cells cellsE_len h1.vec
  obtain ⟨a2, c2, rfl, hat2⟩ := OldRow.cells cellsE_len h2.vec
  obtain ⟨g, o, rfl, hg, hc⟩ := hat 0 e 0 rfl rfl
  obtain ⟨c0, -, -, cW, -⟩ := ent_cells hc
  have hlen : (e :: es).length = es.length + 1 := rfl
  obtain ⟨g2, o2, rfl, hg2, hc2⟩ := hat2 0 f 0 rfl rfl
  obtain ⟨d0, -, -, dW, -⟩ := ent_cells hc2
  have hlen2 : (f :: fs).length = fs.length + 1 := rfl
  have hcc := fun w => scmp_ok e.1 f.1 w
  rw [cmpB, show Op.bytesLess e.1 f.1 = true from hlt, if_pos rfl] at hcc
  refine callsFT (rt := 94) Tryz.func164 rfl rfl rfl rfl fun R => ?_
  show aw _ _ _ _ _ (_ :: _ :: R)
  repeat' (first | (apply ao_nilh; exact hsub_a) | apply ao_nil | apply aq_nil | apply ah_end | ((first | apply ao_val | apply aq_val | (apply ah_take; (exact rfl))); exact wants_a; (first | exact ov_load_oa rfl hg cW rfl | exact ov_sltail rfl rfl (by simp) | exact ov_a); (exact rfl)) | ((first | apply ao_skip | apply aq_skip | (apply ah_skip; (exact rfl))); exact nots_a; (exact rfl)) | (refine ao_is ?_; first | (apply ao_new; exact wants_a; exact on_a; (exact rfl); intro _) | (apply ao_store; exact wants_a; exact ow_a; exact upd_a) | (apply ao_valw; exact wants_a; exact ox_a; (exact rfl); exact upd_a) | (apply ao_skip0; exact nots_a) | (apply ao_append; exact wants_a; (exact rfl); assumption; (exact rfl); exact cut_a; exact has_a; (exact rfl); (exact rfl); omega; omega; omega; (exact rfl); intro vr lr hr)) | ((first | apply ao_call | apply aq_call); exact wants_a; (first | exact oc_func rfl | exact oc_clos rfl rfl | exact oc_bnd rfl rfl); (exact rfl); (first | exact fun w hw => hcc w)) | (apply ah_one; (exact rfl)) | (apply ah_two; (exact rfl); (exact rfl)) | (apply ah_three; (exact rfl); (exact rfl); (exact rfl)) | (refine aw_is ?_; first | (apply aw_held (id := 7) (pl := (.v 0 (.t 1 (.t 2 (.t 3 (.t 10 (.w 4 (.t 5 (.t 6 (.t 7 (.w 8 (.t 9 (.o 11 (.o 12 .e))) 11 (.o 8 (.t 9 (.o 12 .e))))))) 8 (.t 9 (.o 4 (.t 5 (.t 6 (.t 7 (.o 11 (.o 12 .e)))))))))))) 4 (.t 5 (.t 6 (.t 7 (.w 0 (.t 1 (.t 2 (.t 3 (.t 10 (.w 8 (.t 9 (.o 11 (.o 12 .e))) 11 (.o 8 (.t 9 (.o 12 .e)))))))) 8 (.t 9 (.o 0 (.t 1 (.t 2 (.t 3 (.t 10 (.o 11 (.o 12 .e)))))))))))) 8 (.t 9 (.w 0 (.t 1 (.t 2 (.t 3 (.t 10 (.o 4 (.t 5 (.t 6 (.t 7 (.o 11 (.o 12 .e)))))))))) 4 (.t 5 (.t 6 (.t 7 (.o 0 (.t 1 (.t 2 (.t 3 (.t 10 (.o 11 (.o 12 .e)))))))))))))); (kernel_rfl); (kernel_rfl); (kernel_rfl); (solve | (apply hs_keep; apply hs_skip; apply hs_keep; apply hs_skip; exact List.Sublist.refl _))) | (apply aw_held (id := 10) (pl := (.t 0 (.t 1 (.t 2 (.t 3 (.o 4 (.o 5 .e))))))); (kernel_rfl); (kernel_rfl); (kernel_rfl); (solve | (exact List.Sublist.refl _))) | refine aw_seq ?_ | refine aw_block ?_ | refine aw_region ?_ | refine aw_skip ?_ | refine aw_exit ?_ | refine aw_ret ?_ | refine aw_label ?_ | refine aw_scope ?_ | refine aw_cond_t rfl (by with_reducible rfl) ?_ | refine aw_cond_f rfl (by with_reducible rfl) ?_ | refine aw_draw (by kernel_rfl) (by kernel_rfl) ?_) | (first | (refine ah_is ?_; (fail_if_success first | refine ah_glit (b := true) rfl rfl rfl (by with_reducible rfl) ?_ | refine ah_glit (b := false) rfl rfl rfl (by with_reducible rfl) ?_); apply ah_gt; (exact rfl); (exact rfl); (exact rfl); exact t_a) | ((refine ao_is ?_; (fail_if_success first | refine ao_glit (b := true) rfl rfl (by with_reducible rfl) ?_ | refine ao_glit (b := false) rfl rfl (by with_reducible rfl) ?_)); apply ao_gt; (exact rfl); (exact rfl); exact t_a) | ((refine aq_is ?_; (fail_if_success first | refine aq_glit (b := true) rfl rfl (by with_reducible rfl) ?_ | refine aq_glit (b := false) rfl rfl (by with_reducible rfl) ?_)); apply aq_gt; (exact rfl); (exact rfl); exact t_a) | (apply aw_ct; (exact rfl); exact t_a)) | (first | (refine ah_is ?_; (fail_if_success first | refine ah_glit (b := true) rfl rfl rfl (by with_reducible rfl) ?_ | refine ah_glit (b := false) rfl rfl rfl (by with_reducible rfl) ?_); apply ah_gf; (exact rfl); (exact rfl); (exact rfl); exact f_a) | ((refine ao_is ?_; (fail_if_success first | refine ao_glit (b := true) rfl rfl (by with_reducible rfl) ?_ | refine ao_glit (b := false) rfl rfl (by with_reducible rfl) ?_)); apply ao_gf; (exact rfl); (exact rfl); exact f_a) | ((refine aq_is ?_; (fail_if_success first | refine aq_glit (b := true) rfl rfl (by with_reducible rfl) ?_ | refine aq_glit (b := false) rfl rfl (by with_reducible rfl) ?_)); apply aq_gf; (exact rfl); (exact rfl); exact f_a) | (apply aw_cf; (exact rfl); exact f_a)) | refine at_normal ?_ | refine at_exit ?_ | refine at_ret ?_ | refine ib_normal ?_ | refine ib_exit ?_ | refine ib_other ?_ | refine ib_ret ?_ | refine lq_exit ?_ | refine lq_ret ?_ | refine ci_ret ?_ | refine ci_exit ?_ | refine r1_ret rfl ?_ | refine r1_normal rfl ?_ | refine r2_ret rfl rfl ?_ | refine r2_normal rfl rfl ?_ | refine r3_ret rfl rfl rfl ?_ | refine r3_normal rfl rfl rfl ?_ | refine ng_normal ?_ | refine ng_exit ?_ | refine ng_ret ?_ | (apply rt_ret; (exact rfl); (exact rfl); (exact rfl); exact has_a; exact has_a; (exact rfl); (exact rfl)) | (apply rc1_ret; (exact rfl); exact has_a; (exact rfl)) | (apply rc2_ret; (exact rfl); exact has_a; (exact rfl); (exact rfl)) | (refine ao_is ?_; (fail_if_success first | refine ao_glit (b := true) rfl rfl (by with_reducible rfl) ?_ | refine ao_glit (b := false) rfl rfl (by with_reducible rfl) ?_); refine ao_gbool rfl rfl (fun _ => ?_) (fun _ => ?_)) | (refine aq_is ?_; (fail_if_success first | refine aq_glit (b := true) rfl rfl (by with_reducible rfl) ?_ | refine aq_glit (b := false) rfl rfl (by with_reducible rfl) ?_); refine aq_gbool rfl rfl (fun _ => ?_) (fun _ => ?_)) | (refine aw_is ?_; refine aw_cond rfl (fun _ => ?_) (fun _ => ?_)))
  all_goals exact ⟨rfl, rfl, zeroL, hs_skip _ (hs_skip _ (List.Sublist.refl _))⟩
set_option maxHeartbeats 16000000 in
theorem next_b1 (E : Env) (hE : E.B = E.w0.heap.size) (ga gb : Nat) (va vb : Value) (f : Ent) (fs : List Ent) (h1 : VecCap E.w0 va []) (h2 : VecCap E.w0 vb (f :: fs)) (hl2 : fs.length ≤ 100000) :
    CallsF Tryz.prog E 164 [.pointer (some ⟨gb, 0, none⟩), .pointer (some ⟨ga, 0, none⟩)] [BX gb vb, BX ga va]
      (.tuple #[S f.1, WV 0, WV f.2]) [BX gb (tlS 3 vb), BX ga va] := by
  obtain ⟨B, w0, m⟩ := E
  have hE : B = w0.heap.size := hE
  subst hE
  obtain ⟨a, c, rfl, hat⟩ := OldRow.cells cellsE_len h1.vec
  obtain ⟨a2, c2, rfl, hat2⟩ := OldRow.cells cellsE_len h2.vec
  obtain ⟨g2, o2, rfl, hg2, hc2⟩ := hat2 0 f 0 rfl rfl
  obtain ⟨d0, -, -, dW, -⟩ := ent_cells hc2
  have hlen2 : (f :: fs).length = fs.length + 1 := rfl
  have hn0 : (([] : List Ent).length : Int) = 0 := rfl
  refine callsFT (rt := 94) Tryz.func164 rfl rfl rfl rfl fun R => ?_
  show aw _ _ _ _ _ (_ :: _ :: R)
  repeat' (first | (apply ao_nilh; exact hsub_a) | apply ao_nil | apply aq_nil | apply ah_end | ((first | apply ao_val | apply aq_val | (apply ah_take; (exact rfl))); exact wants_a; (first | exact ov_load_oa rfl hg2 dW rfl | exact ov_sltail rfl rfl (by simp) | exact ov_a); (exact rfl)) | ((first | apply ao_skip | apply aq_skip | (apply ah_skip; (exact rfl))); exact nots_a; (exact rfl)) | (refine ao_is ?_; first | (apply ao_new; exact wants_a; exact on_a; (exact rfl); intro _) | (apply ao_store; exact wants_a; exact ow_a; exact upd_a) | (apply ao_valw; exact wants_a; exact ox_a; (exact rfl); exact upd_a) | (apply ao_skip0; exact nots_a) | (apply ao_append; exact wants_a; (exact rfl); assumption; (exact rfl); exact cut_a; exact has_a; (exact rfl); (exact rfl); omega; omega; omega; (exact rfl); intro vr lr hr)) | (apply ah_one; (exact rfl)) | (apply ah_two; (exact rfl); (exact rfl)) | (apply ah_three; (exact rfl); (exact rfl); (exact rfl)) | (refine aw_is ?_; first | (apply aw_held (id := 9) (pl := (.v 0 (.t 1 (.t 2 (.t 3 (.t 10 (.w 4 (.t 5 (.t 6 (.t 7 (.w 8 (.t 9 (.o 11 (.o 12 .e))) 11 (.o 8 (.t 9 (.o 12 .e))))))) 8 (.t 9 (.o 4 (.t 5 (.t 6 (.t 7 (.o 11 (.o 12 .e)))))))))))) 4 (.t 5 (.t 6 (.t 7 (.w 0 (.t 1 (.t 2 (.t 3 (.t 10 (.w 8 (.t 9 (.o 11 (.o 12 .e))) 11 (.o 8 (.t 9 (.o 12 .e)))))))) 8 (.t 9 (.o 0 (.t 1 (.t 2 (.t 3 (.t 10 (.o 11 (.o 12 .e)))))))))))) 8 (.t 9 (.w 0 (.t 1 (.t 2 (.t 3 (.t 10 (.o 4 (.t 5 (.t 6 (.t 7 (.o 11 (.o 12 .e)))))))))) 4 (.t 5 (.t 6 (.t 7 (.o 0 (.t 1 (.t 2 (.t 3 (.t 10 (.o 11 (.o 12 .e)))))))))))))); (kernel_rfl); (kernel_rfl); (kernel_rfl); (solve | (apply hs_skip; apply hs_keep; apply hs_skip; apply hs_keep; exact List.Sublist.refl _))) | (apply aw_held (id := 10) (pl := (.t 0 (.t 1 (.t 2 (.t 3 (.o 4 (.o 5 .e))))))); (kernel_rfl); (kernel_rfl); (kernel_rfl); (solve | (exact List.Sublist.refl _))) | refine aw_seq ?_ | refine aw_block ?_ | refine aw_region ?_ | refine aw_skip ?_ | refine aw_exit ?_ | refine aw_ret ?_ | refine aw_label ?_ | refine aw_scope ?_ | refine aw_cond_t rfl (by with_reducible rfl) ?_ | refine aw_cond_f rfl (by with_reducible rfl) ?_ | refine aw_draw (by kernel_rfl) (by kernel_rfl) ?_) | (first | (refine ah_is ?_; (fail_if_success first | refine ah_glit (b := true) rfl rfl rfl (by with_reducible rfl) ?_ | refine ah_glit (b := false) rfl rfl rfl (by with_reducible rfl) ?_); apply ah_gt; (exact rfl); (exact rfl); (exact rfl); exact t_a) | ((refine ao_is ?_; (fail_if_success first | refine ao_glit (b := true) rfl rfl (by with_reducible rfl) ?_ | refine ao_glit (b := false) rfl rfl (by with_reducible rfl) ?_)); apply ao_gt; (exact rfl); (exact rfl); exact t_a) | ((refine aq_is ?_; (fail_if_success first | refine aq_glit (b := true) rfl rfl (by with_reducible rfl) ?_ | refine aq_glit (b := false) rfl rfl (by with_reducible rfl) ?_)); apply aq_gt; (exact rfl); (exact rfl); exact t_a) | (apply aw_ct; (exact rfl); exact t_a)) | (first | (refine ah_is ?_; (fail_if_success first | refine ah_glit (b := true) rfl rfl rfl (by with_reducible rfl) ?_ | refine ah_glit (b := false) rfl rfl rfl (by with_reducible rfl) ?_); apply ah_gf; (exact rfl); (exact rfl); (exact rfl); exact f_a) | ((refine ao_is ?_; (fail_if_success first | refine ao_glit (b := true) rfl rfl (by with_reducible rfl) ?_ | refine ao_glit (b := false) rfl rfl (by with_reducible rfl) ?_)); apply ao_gf; (exact rfl); (exact rfl); exact f_a) | ((refine aq_is ?_; (fail_if_success first | refine aq_glit (b := true) rfl rfl (by with_reducible rfl) ?_ | refine aq_glit (b := false) rfl rfl (by with_reducible rfl) ?_)); apply aq_gf; (exact rfl); (exact rfl); exact f_a) | (apply aw_cf; (exact rfl); exact f_a)) | refine at_normal ?_ | refine at_exit ?_ | refine at_ret ?_ | refine ib_normal ?_ | refine ib_exit ?_ | refine ib_other ?_ | refine ib_ret ?_ | refine lq_exit ?_ | refine lq_ret ?_ | refine ci_ret ?_ | refine ci_exit ?_ | refine r1_ret rfl ?_ | refine r1_normal rfl ?_ | refine r2_ret rfl rfl ?_ | refine r2_normal rfl rfl ?_ | refine r3_ret rfl rfl rfl ?_ | refine r3_normal rfl rfl rfl ?_ | refine ng_normal ?_ | refine ng_exit ?_ | refine ng_ret ?_ | (apply rt_ret; (exact rfl); (exact rfl); (exact rfl); exact has_a; exact has_a; (exact rfl); (exact rfl)) | (apply rc1_ret; (exact rfl); exact has_a; (exact rfl)) | (apply rc2_ret; (exact rfl); exact has_a; (exact rfl); (exact rfl)) | (refine ao_is ?_; (fail_if_success first | refine ao_glit (b := true) rfl rfl (by with_reducible rfl) ?_ | refine ao_glit (b := false) rfl rfl (by with_reducible rfl) ?_); refine ao_gbool rfl rfl (fun _ => ?_) (fun _ => ?_)) | (refine aq_is ?_; (fail_if_success first | refine aq_glit (b := true) rfl rfl (by with_reducible rfl) ?_ | refine aq_glit (b := false) rfl rfl (by with_reducible rfl) ?_); refine aq_gbool rfl rfl (fun _ => ?_) (fun _ => ?_)) | (refine aw_is ?_; refine aw_cond rfl (fun _ => ?_) (fun _ => ?_)))
  all_goals exact ⟨rfl, zeroL, rfl, hs_skip _ (hs_skip _ (List.Sublist.refl _))⟩
set_option maxHeartbeats 16000000 in
theorem next_b (E : Env) (hE : E.B = E.w0.heap.size) (ga gb : Nat) (va vb : Value) (e : Ent) (es : List Ent) (f : Ent) (fs : List Ent) (h1 : VecCap E.w0 va (e :: es)) (h2 : VecCap E.w0 vb (f :: fs)) (hl1 : es.length ≤ 100000) (hl2 : fs.length ≤ 100000) (hlt : lt f.1 e.1 = true) :
    CallsF Tryz.prog E 164 [.pointer (some ⟨gb, 0, none⟩), .pointer (some ⟨ga, 0, none⟩)] [BX gb vb, BX ga va]
      (.tuple #[S f.1, WV 0, WV f.2]) [BX gb (tlS 3 vb), BX ga va] := by
  obtain ⟨B, w0, m⟩ := E
  have hE : B = w0.heap.size := hE
  subst hE
  obtain ⟨a, c, rfl, hat⟩ := OldRow.cells cellsE_len h1.vec
  obtain ⟨a2, c2, rfl, hat2⟩ := OldRow.cells cellsE_len h2.vec
  obtain ⟨g, o, rfl, hg, hc⟩ := hat 0 e 0 rfl rfl
  obtain ⟨c0, -, -, cW, -⟩ := ent_cells hc
  have hlen : (e :: es).length = es.length + 1 := rfl
  obtain ⟨g2, o2, rfl, hg2, hc2⟩ := hat2 0 f 0 rfl rfl
  obtain ⟨d0, -, -, dW, -⟩ := ent_cells hc2
  have hlen2 : (f :: fs).length = fs.length + 1 := rfl
  have hcc := fun w => scmp_ok e.1 f.1 w
  rw [cmpB, show Op.bytesLess e.1 f.1 = false from lt_asymm hlt, if_neg (by decide), show Op.bytesLess f.1 e.1 = true from hlt, if_pos rfl] at hcc
  refine callsFT (rt := 94) Tryz.func164 rfl rfl rfl rfl fun R => ?_
  show aw _ _ _ _ _ (_ :: _ :: R)
  repeat' (first | (apply ao_nilh; exact hsub_a) | apply ao_nil | apply aq_nil | apply ah_end | ((first | apply ao_val | apply aq_val | (apply ah_take; (exact rfl))); exact wants_a; (first | exact ov_load_oa rfl hg2 dW rfl | exact ov_sltail rfl rfl (by simp) | exact ov_a); (exact rfl)) | ((first | apply ao_skip | apply aq_skip | (apply ah_skip; (exact rfl))); exact nots_a; (exact rfl)) | (refine ao_is ?_; first | (apply ao_new; exact wants_a; exact on_a; (exact rfl); intro _) | (apply ao_store; exact wants_a; exact ow_a; exact upd_a) | (apply ao_valw; exact wants_a; exact ox_a; (exact rfl); exact upd_a) | (apply ao_skip0; exact nots_a) | (apply ao_append; exact wants_a; (exact rfl); assumption; (exact rfl); exact cut_a; exact has_a; (exact rfl); (exact rfl); omega; omega; omega; (exact rfl); intro vr lr hr)) | ((first | apply ao_call | apply aq_call); exact wants_a; (first | exact oc_func rfl | exact oc_clos rfl rfl | exact oc_bnd rfl rfl); (exact rfl); (first | exact fun w hw => hcc w)) | (apply ah_one; (exact rfl)) | (apply ah_two; (exact rfl); (exact rfl)) | (apply ah_three; (exact rfl); (exact rfl); (exact rfl)) | (refine aw_is ?_; first | (apply aw_held (id := 9) (pl := (.v 0 (.t 1 (.t 2 (.t 3 (.t 10 (.w 4 (.t 5 (.t 6 (.t 7 (.w 8 (.t 9 (.o 11 (.o 12 .e))) 11 (.o 8 (.t 9 (.o 12 .e))))))) 8 (.t 9 (.o 4 (.t 5 (.t 6 (.t 7 (.o 11 (.o 12 .e)))))))))))) 4 (.t 5 (.t 6 (.t 7 (.w 0 (.t 1 (.t 2 (.t 3 (.t 10 (.w 8 (.t 9 (.o 11 (.o 12 .e))) 11 (.o 8 (.t 9 (.o 12 .e)))))))) 8 (.t 9 (.o 0 (.t 1 (.t 2 (.t 3 (.t 10 (.o 11 (.o 12 .e)))))))))))) 8 (.t 9 (.w 0 (.t 1 (.t 2 (.t 3 (.t 10 (.o 4 (.t 5 (.t 6 (.t 7 (.o 11 (.o 12 .e)))))))))) 4 (.t 5 (.t 6 (.t 7 (.o 0 (.t 1 (.t 2 (.t 3 (.t 10 (.o 11 (.o 12 .e)))))))))))))); (kernel_rfl); (kernel_rfl); (kernel_rfl); (solve | (apply hs_skip; apply hs_keep; apply hs_skip; apply hs_keep; exact List.Sublist.refl _))) | (apply aw_held (id := 10) (pl := (.t 0 (.t 1 (.t 2 (.t 3 (.o 4 (.o 5 .e))))))); (kernel_rfl); (kernel_rfl); (kernel_rfl); (solve | (exact List.Sublist.refl _))) | refine aw_seq ?_ | refine aw_block ?_ | refine aw_region ?_ | refine aw_skip ?_ | refine aw_exit ?_ | refine aw_ret ?_ | refine aw_label ?_ | refine aw_scope ?_ | refine aw_cond_t rfl (by with_reducible rfl) ?_ | refine aw_cond_f rfl (by with_reducible rfl) ?_ | refine aw_draw (by kernel_rfl) (by kernel_rfl) ?_) | (first | (refine ah_is ?_; (fail_if_success first | refine ah_glit (b := true) rfl rfl rfl (by with_reducible rfl) ?_ | refine ah_glit (b := false) rfl rfl rfl (by with_reducible rfl) ?_); apply ah_gt; (exact rfl); (exact rfl); (exact rfl); exact t_a) | ((refine ao_is ?_; (fail_if_success first | refine ao_glit (b := true) rfl rfl (by with_reducible rfl) ?_ | refine ao_glit (b := false) rfl rfl (by with_reducible rfl) ?_)); apply ao_gt; (exact rfl); (exact rfl); exact t_a) | ((refine aq_is ?_; (fail_if_success first | refine aq_glit (b := true) rfl rfl (by with_reducible rfl) ?_ | refine aq_glit (b := false) rfl rfl (by with_reducible rfl) ?_)); apply aq_gt; (exact rfl); (exact rfl); exact t_a) | (apply aw_ct; (exact rfl); exact t_a)) | (first | (refine ah_is ?_; (fail_if_success first | refine ah_glit (b := true) rfl rfl rfl (by with_reducible rfl) ?_ | refine ah_glit (b := false) rfl rfl rfl (by with_reducible rfl) ?_); apply ah_gf; (exact rfl); (exact rfl); (exact rfl); exact f_a) | ((refine ao_is ?_; (fail_if_success first | refine ao_glit (b := true) rfl rfl (by with_reducible rfl) ?_ | refine ao_glit (b := false) rfl rfl (by with_reducible rfl) ?_)); apply ao_gf; (exact rfl); (exact rfl); exact f_a) | ((refine aq_is ?_; (fail_if_success first | refine aq_glit (b := true) rfl rfl (by with_reducible rfl) ?_ | refine aq_glit (b := false) rfl rfl (by with_reducible rfl) ?_)); apply aq_gf; (exact rfl); (exact rfl); exact f_a) | (apply aw_cf; (exact rfl); exact f_a)) | refine at_normal ?_ | refine at_exit ?_ | refine at_ret ?_ | refine ib_normal ?_ | refine ib_exit ?_ | refine ib_other ?_ | refine ib_ret ?_ | refine lq_exit ?_ | refine lq_ret ?_ | refine ci_ret ?_ | refine ci_exit ?_ | refine r1_ret rfl ?_ | refine r1_normal rfl ?_ | refine r2_ret rfl rfl ?_ | refine r2_normal rfl rfl ?_ | refine r3_ret rfl rfl rfl ?_ | refine r3_normal rfl rfl rfl ?_ | refine ng_normal ?_ | refine ng_exit ?_ | refine ng_ret ?_ | (apply rt_ret; (exact rfl); (exact rfl); (exact rfl); exact has_a; exact has_a; (exact rfl); (exact rfl)) | (apply rc1_ret; (exact rfl); exact has_a; (exact rfl)) | (apply rc2_ret; (exact rfl); exact has_a; (exact rfl); (exact rfl)) | (refine ao_is ?_; (fail_if_success first | refine ao_glit (b := true) rfl rfl (by with_reducible rfl) ?_ | refine ao_glit (b := false) rfl rfl (by with_reducible rfl) ?_); refine ao_gbool rfl rfl (fun _ => ?_) (fun _ => ?_)) | (refine aq_is ?_; (fail_if_success first | refine aq_glit (b := true) rfl rfl (by with_reducible rfl) ?_ | refine aq_glit (b := false) rfl rfl (by with_reducible rfl) ?_); refine aq_gbool rfl rfl (fun _ => ?_) (fun _ => ?_)) | (refine aw_is ?_; refine aw_cond rfl (fun _ => ?_) (fun _ => ?_)))
  all_goals exact ⟨rfl, zeroL, rfl, hs_skip _ (hs_skip _ (List.Sublist.refl _))⟩
set_option maxHeartbeats 16000000 in
theorem next_ab (E : Env) (hE : E.B = E.w0.heap.size) (ga gb : Nat) (va vb : Value) (e : Ent) (es : List Ent) (f : Ent) (fs : List Ent) (h1 : VecCap E.w0 va (e :: es)) (h2 : VecCap E.w0 vb (f :: fs)) (hl1 : es.length ≤ 100000) (hl2 : fs.length ≤ 100000) (heq : e.1 = f.1) :
    CallsF Tryz.prog E 164 [.pointer (some ⟨gb, 0, none⟩), .pointer (some ⟨ga, 0, none⟩)] [BX gb vb, BX ga va]
      (.tuple #[S e.1, WV e.2, WV f.2]) [BX gb (tlS 3 vb), BX ga (tlS 3 va)] := by
  obtain ⟨B, w0, m⟩ := E
  have hE : B = w0.heap.size := hE
  subst hE
  obtain ⟨a, c, rfl, hat⟩ := OldRow.cells cellsE_len h1.vec
  obtain ⟨a2, c2, rfl, hat2⟩ := OldRow.cells cellsE_len h2.vec
  obtain ⟨g, o, rfl, hg, hc⟩ := hat 0 e 0 rfl rfl
  obtain ⟨c0, -, -, cW, -⟩ := ent_cells hc
  have hlen : (e :: es).length = es.length + 1 := rfl
  obtain ⟨g2, o2, rfl, hg2, hc2⟩ := hat2 0 f 0 rfl rfl
  obtain ⟨d0, -, -, dW, -⟩ := ent_cells hc2
  have hlen2 : (f :: fs).length = fs.length + 1 := rfl
  have hcc := fun w => scmp_ok e.1 f.1 w
  rw [cmpB, heq, show Op.bytesLess f.1 f.1 = false from lt_irrefl f.1, if_neg (by decide), if_neg (by decide)] at hcc
  rw [heq] at c0 ⊢
  refine callsFT (rt := 94) Tryz.func164 rfl rfl rfl rfl fun R => ?_
  show aw _ _ _ _ _ (_ :: _ :: R)
  repeat' (first | (apply ao_nilh; exact hsub_a) | apply ao_nil | apply aq_nil | apply ah_end | ((first | apply ao_val | apply aq_val | (apply ah_take; (exact rfl))); exact wants_a; (first | exact ov_load_oa rfl hg cW rfl | exact ov_load_oa rfl hg2 dW rfl | exact ov_sltail rfl rfl (by simp) | exact ov_a); (exact rfl)) | ((first | apply ao_skip | apply aq_skip | (apply ah_skip; (exact rfl))); exact nots_a; (exact rfl)) | (refine ao_is ?_; first | (apply ao_new; exact wants_a; exact on_a; (exact rfl); intro _) | (apply ao_store; exact wants_a; exact ow_a; exact upd_a) | (apply ao_valw; exact wants_a; exact ox_a; (exact rfl); exact upd_a) | (apply ao_skip0; exact nots_a) | (apply ao_append; exact wants_a; (exact rfl); assumption; (exact rfl); exact cut_a; exact has_a; (exact rfl); (exact rfl); omega; omega; omega; (exact rfl); intro vr lr hr)) | ((first | apply ao_call | apply aq_call); exact wants_a; (first | exact oc_func rfl | exact oc_clos rfl rfl | exact oc_bnd rfl rfl); (exact rfl); (first | exact fun w hw => hcc w)) | (apply ah_one; (exact rfl)) | (apply ah_two; (exact rfl); (exact rfl)) | (apply ah_three; (exact rfl); (exact rfl); (exact rfl)) | (refine aw_is ?_; first | refine aw_cutI_at (id := 8) (fun t H => ∃ b3 b4, t = [(0, .pointer (some ⟨gb, 0, none⟩)), (1, .pointer (some ⟨ga, 0, none⟩)), (2, S f.1), (3, .pointer (some ⟨b3, 0, none⟩)), (4, .pointer (some ⟨b4, 0, none⟩)), (5, I 0)] ∧ H = (b4, .cells #[I 0, .int .u64 0] 94) :: (b3, .cells #[I (sHi e.2), .int .u64 (sLo e.2)] 94) :: BX gb (.slice (some ⟨g2, o2, none⟩) (f :: fs).length c2) :: BX ga (tlS 3 (.slice (some ⟨g, o, none⟩) (e :: es).length c)) :: R) ?_ ?_ | refine aw_cutI_at2 (id := 8) (fun t H => ∃ b3 b4, t = [(0, .pointer (some ⟨gb, 0, none⟩)), (1, .pointer (some ⟨ga, 0, none⟩)), (2, S f.1), (3, .pointer (some ⟨b3, 0, none⟩)), (4, .pointer (some ⟨b4, 0, none⟩)), (5, I 0)] ∧ H = (b4, .cells #[I 0, .int .u64 0] 94) :: (b3, .cells #[I (sHi e.2), .int .u64 (sLo e.2)] 94) :: BX gb (.slice (some ⟨g2, o2, none⟩) (f :: fs).length c2) :: BX ga (tlS 3 (.slice (some ⟨g, o, none⟩) (e :: es).length c)) :: R) ?_ ?_ | (apply aw_held (id := 7) (pl := (.v 0 (.t 1 (.t 2 (.t 3 (.t 10 (.w 4 (.t 5 (.t 6 (.t 7 (.w 8 (.t 9 (.o 11 (.o 12 .e))) 11 (.o 8 (.t 9 (.o 12 .e))))))) 8 (.t 9 (.o 4 (.t 5 (.t 6 (.t 7 (.o 11 (.o 12 .e)))))))))))) 4 (.t 5 (.t 6 (.t 7 (.w 0 (.t 1 (.t 2 (.t 3 (.t 10 (.w 8 (.t 9 (.o 11 (.o 12 .e))) 11 (.o 8 (.t 9 (.o 12 .e)))))))) 8 (.t 9 (.o 0 (.t 1 (.t 2 (.t 3 (.t 10 (.o 11 (.o 12 .e)))))))))))) 8 (.t 9 (.w 0 (.t 1 (.t 2 (.t 3 (.t 10 (.o 4 (.t 5 (.t 6 (.t 7 (.o 11 (.o 12 .e)))))))))) 4 (.t 5 (.t 6 (.t 7 (.o 0 (.t 1 (.t 2 (.t 3 (.t 10 (.o 11 (.o 12 .e)))))))))))))); (kernel_rfl); (kernel_rfl); (kernel_rfl); (solve | (apply hs_keep; apply hs_skip; apply hs_keep; apply hs_skip; exact List.Sublist.refl _))) | refine aw_seq ?_ | refine aw_block ?_ | refine aw_region ?_ | refine aw_skip ?_ | refine aw_exit ?_ | refine aw_ret ?_ | refine aw_label ?_ | refine aw_scope ?_ | refine aw_cond_t rfl (by with_reducible rfl) ?_ | refine aw_cond_f rfl (by with_reducible rfl) ?_ | refine aw_draw (by kernel_rfl) (by kernel_rfl) ?_) | (first | (refine ah_is ?_; (fail_if_success first | refine ah_glit (b := true) rfl rfl rfl (by with_reducible rfl) ?_ | refine ah_glit (b := false) rfl rfl rfl (by with_reducible rfl) ?_); apply ah_gt; (exact rfl); (exact rfl); (exact rfl); exact t_a) | ((refine ao_is ?_; (fail_if_success first | refine ao_glit (b := true) rfl rfl (by with_reducible rfl) ?_ | refine ao_glit (b := false) rfl rfl (by with_reducible rfl) ?_)); apply ao_gt; (exact rfl); (exact rfl); exact t_a) | ((refine aq_is ?_; (fail_if_success first | refine aq_glit (b := true) rfl rfl (by with_reducible rfl) ?_ | refine aq_glit (b := false) rfl rfl (by with_reducible rfl) ?_)); apply aq_gt; (exact rfl); (exact rfl); exact t_a) | (apply aw_ct; (exact rfl); exact t_a)) | (first | (refine ah_is ?_; (fail_if_success first | refine ah_glit (b := true) rfl rfl rfl (by with_reducible rfl) ?_ | refine ah_glit (b := false) rfl rfl rfl (by with_reducible rfl) ?_); apply ah_gf; (exact rfl); (exact rfl); (exact rfl); exact f_a) | ((refine ao_is ?_; (fail_if_success first | refine ao_glit (b := true) rfl rfl (by with_reducible rfl) ?_ | refine ao_glit (b := false) rfl rfl (by with_reducible rfl) ?_)); apply ao_gf; (exact rfl); (exact rfl); exact f_a) | ((refine aq_is ?_; (fail_if_success first | refine aq_glit (b := true) rfl rfl (by with_reducible rfl) ?_ | refine aq_glit (b := false) rfl rfl (by with_reducible rfl) ?_)); apply aq_gf; (exact rfl); (exact rfl); exact f_a) | (apply aw_cf; (exact rfl); exact f_a)) | refine at_normal ?_ | refine at_exit ?_ | refine at_ret ?_ | refine ib_normal ?_ | refine ib_exit ?_ | refine ib_other ?_ | refine ib_ret ?_ | refine lq_exit ?_ | refine lq_ret ?_ | refine ci_ret ?_ | refine ci_exit ?_ | refine r1_ret rfl ?_ | refine r1_normal rfl ?_ | refine r2_ret rfl rfl ?_ | refine r2_normal rfl rfl ?_ | refine r3_ret rfl rfl rfl ?_ | refine r3_normal rfl rfl rfl ?_ | refine ng_normal ?_ | refine ng_exit ?_ | refine ng_ret ?_ | (apply rt_ret; (exact rfl); (exact rfl); (exact rfl); exact has_a; exact has_a; (exact rfl); (exact rfl)) | (apply rc1_ret; (exact rfl); exact has_a; (exact rfl)) | (apply rc2_ret; (exact rfl); exact has_a; (exact rfl); (exact rfl)) | (refine ao_is ?_; (fail_if_success first | refine ao_glit (b := true) rfl rfl (by with_reducible rfl) ?_ | refine ao_glit (b := false) rfl rfl (by with_reducible rfl) ?_); refine ao_gbool rfl rfl (fun _ => ?_) (fun _ => ?_)) | (refine aq_is ?_; (fail_if_success first | refine aq_glit (b := true) rfl rfl (by with_reducible rfl) ?_ | refine aq_glit (b := false) rfl rfl (by with_reducible rfl) ?_); refine aq_gbool rfl rfl (fun _ => ?_) (fun _ => ?_)) | (refine aw_is ?_; refine aw_cond rfl (fun _ => ?_) (fun _ => ?_)))
  iterate 8 (first | exact ci_normal ⟨_, _, rfl, rfl⟩ (by repeat (first | exact sub_nil | refine sub_cons rfl ?_)) hsub_a | skip)
  rintro t H ⟨b3, b4, rfl, rfl⟩
  repeat' (first | (apply ao_nilh; exact hsub_a) | apply ao_nil | apply aq_nil | apply ah_end | ((first | apply ao_val | apply aq_val | (apply ah_take; (exact rfl))); exact wants_a; (first | exact ov_load_oa rfl hg2 dW rfl | exact ov_sltail rfl rfl (by simp) | exact ov_a); (exact rfl)) | ((first | apply ao_skip | apply aq_skip | (apply ah_skip; (exact rfl))); exact nots_a; (exact rfl)) | (refine ao_is ?_; first | (apply ao_new; exact wants_a; exact on_a; (exact rfl); intro _) | (apply ao_store; exact wants_a; exact ow_a; exact upd_a) | (apply ao_valw; exact wants_a; exact ox_a; (exact rfl); exact upd_a) | (apply ao_skip0; exact nots_a) | (apply ao_append; exact wants_a; (exact rfl); assumption; (exact rfl); exact cut_a; exact has_a; (exact rfl); (exact rfl); omega; omega; omega; (exact rfl); intro vr lr hr)) | (apply ah_one; (exact rfl)) | (apply ah_two; (exact rfl); (exact rfl)) | (apply ah_three; (exact rfl); (exact rfl); (exact rfl)) | (refine aw_is ?_; first | (apply aw_held (id := 9) (pl := (.v 0 (.t 1 (.t 2 (.t 3 (.t 10 (.w 4 (.t 5 (.t 6 (.t 7 (.w 8 (.t 9 (.o 11 (.o 12 .e))) 11 (.o 8 (.t 9 (.o 12 .e))))))) 8 (.t 9 (.o 4 (.t 5 (.t 6 (.t 7 (.o 11 (.o 12 .e)))))))))))) 4 (.t 5 (.t 6 (.t 7 (.w 0 (.t 1 (.t 2 (.t 3 (.t 10 (.w 8 (.t 9 (.o 11 (.o 12 .e))) 11 (.o 8 (.t 9 (.o 12 .e)))))))) 8 (.t 9 (.o 0 (.t 1 (.t 2 (.t 3 (.t 10 (.o 11 (.o 12 .e)))))))))))) 8 (.t 9 (.w 0 (.t 1 (.t 2 (.t 3 (.t 10 (.o 4 (.t 5 (.t 6 (.t 7 (.o 11 (.o 12 .e)))))))))) 4 (.t 5 (.t 6 (.t 7 (.o 0 (.t 1 (.t 2 (.t 3 (.t 10 (.o 11 (.o 12 .e)))))))))))))); (kernel_rfl); (kernel_rfl); (kernel_rfl); (solve | (apply hs_skip; apply hs_keep; apply hs_skip; apply hs_keep; exact List.Sublist.refl _))) | (apply aw_held (id := 10) (pl := (.t 0 (.t 1 (.t 2 (.t 3 (.o 4 (.o 5 .e))))))); (kernel_rfl); (kernel_rfl); (kernel_rfl); (solve | (exact List.Sublist.refl _))) | refine aw_seq ?_ | refine aw_block ?_ | refine aw_region ?_ | refine aw_skip ?_ | refine aw_exit ?_ | refine aw_ret ?_ | refine aw_label ?_ | refine aw_scope ?_ | refine aw_cond_t rfl (by with_reducible rfl) ?_ | refine aw_cond_f rfl (by with_reducible rfl) ?_ | refine aw_draw (by kernel_rfl) (by kernel_rfl) ?_) | (first | (refine ah_is ?_; (fail_if_success first | refine ah_glit (b := true) rfl rfl rfl (by with_reducible rfl) ?_ | refine ah_glit (b := false) rfl rfl rfl (by with_reducible rfl) ?_); apply ah_gt; (exact rfl); (exact rfl); (exact rfl); exact t_a) | ((refine ao_is ?_; (fail_if_success first | refine ao_glit (b := true) rfl rfl (by with_reducible rfl) ?_ | refine ao_glit (b := false) rfl rfl (by with_reducible rfl) ?_)); apply ao_gt; (exact rfl); (exact rfl); exact t_a) | ((refine aq_is ?_; (fail_if_success first | refine aq_glit (b := true) rfl rfl (by with_reducible rfl) ?_ | refine aq_glit (b := false) rfl rfl (by with_reducible rfl) ?_)); apply aq_gt; (exact rfl); (exact rfl); exact t_a) | (apply aw_ct; (exact rfl); exact t_a)) | (first | (refine ah_is ?_; (fail_if_success first | refine ah_glit (b := true) rfl rfl rfl (by with_reducible rfl) ?_ | refine ah_glit (b := false) rfl rfl rfl (by with_reducible rfl) ?_); apply ah_gf; (exact rfl); (exact rfl); (exact rfl); exact f_a) | ((refine ao_is ?_; (fail_if_success first | refine ao_glit (b := true) rfl rfl (by with_reducible rfl) ?_ | refine ao_glit (b := false) rfl rfl (by with_reducible rfl) ?_)); apply ao_gf; (exact rfl); (exact rfl); exact f_a) | ((refine aq_is ?_; (fail_if_success first | refine aq_glit (b := true) rfl rfl (by with_reducible rfl) ?_ | refine aq_glit (b := false) rfl rfl (by with_reducible rfl) ?_)); apply aq_gf; (exact rfl); (exact rfl); exact f_a) | (apply aw_cf; (exact rfl); exact f_a)) | refine at_normal ?_ | refine at_exit ?_ | refine at_ret ?_ | refine ib_normal ?_ | refine ib_exit ?_ | refine ib_other ?_ | refine ib_ret ?_ | refine lq_exit ?_ | refine lq_ret ?_ | refine ci_ret ?_ | refine ci_exit ?_ | refine r1_ret rfl ?_ | refine r1_normal rfl ?_ | refine r2_ret rfl rfl ?_ | refine r2_normal rfl rfl ?_ | refine r3_ret rfl rfl rfl ?_ | refine r3_normal rfl rfl rfl ?_ | refine ng_normal ?_ | refine ng_exit ?_ | refine ng_ret ?_ | (apply rt_ret; (exact rfl); (exact rfl); (exact rfl); exact has_a; exact has_a; (exact rfl); (exact rfl)) | (apply rc1_ret; (exact rfl); exact has_a; (exact rfl)) | (apply rc2_ret; (exact rfl); exact has_a; (exact rfl); (exact rfl)) | (refine ao_is ?_; (fail_if_success first | refine ao_glit (b := true) rfl rfl (by with_reducible rfl) ?_ | refine ao_glit (b := false) rfl rfl (by with_reducible rfl) ?_); refine ao_gbool rfl rfl (fun _ => ?_) (fun _ => ?_)) | (refine aq_is ?_; (fail_if_success first | refine aq_glit (b := true) rfl rfl (by with_reducible rfl) ?_ | refine aq_glit (b := false) rfl rfl (by with_reducible rfl) ?_); refine aq_gbool rfl rfl (fun _ => ?_) (fun _ => ?_)) | (refine aw_is ?_; refine aw_cond rfl (fun _ => ?_) (fun _ => ?_)))
  all_goals exact ⟨rfl, rfl, rfl, hs_skip _ (hs_skip _ (List.Sublist.refl _))⟩
end Vec
end Go.Proofs.YtkjjlppfomidbaaGreat
