/- Contracts of the document's answer for layer 4: Right, Get, Same, Fits, Within; conditions: names of at most 100,000 bytes, numbers of 128 bits. -/
import Derived.Test.YthabchmfhfhcaaaLabs
import Derived.Test.YthabchmfhfhcaaaWprog
import Derived.Test.YthabchmfhfhcaaaVmath
namespace Go.Proofs.Ythabchmfhfhcaaa
namespace Vec
open Go Go.RowKit Sx Wid Lab
attribute [local irreducible] Go.Calls

abbrev WV (n : Int) : Value := W2 (sHi n) (sLo n)
/-- An entry's cells. -/
def cellsE (e : Ent) : List Value := [S e.1, I (sHi e.2), .int .u64 (sLo e.2)]
theorem cellsE_len (e : Ent) : (cellsE e).length = 3 := rfl
abbrev vcells (v : List Ent) : List Value := v.flatMap cellsE
/-- A vector that came in. -/
def VecAt (w : World) (v : Value) (es : List Ent) : Prop := OldRow w 3 v es.length (vcells es)
theorem VecAt.below {w w' : World} {v : Value} {es : List Ent} (h : VecAt w v es) (hb : Below w.heap.size w w') : VecAt w' v es := OldRow.below h hb
/-- Not too many; names are short, numbers are whole ones of 128 bits. -/
def wfV (es : List Ent) : Prop := es.length ≤ 100000 ∧ ∀ e ∈ es, e.1.length ≤ 100000 ∧ inW e.2
theorem wfV.at {es : List Ent} (h : wfV es) {i : Nat} {e : Ent} (hi : es[i]? = some e) : e.1.length ≤ 100000 ∧ inW e.2 := h.2 e (List.mem_of_getElem? hi)
theorem ent_cells {w : World} {g b : Nat} {e : Ent} (hc : ∀ (r : Nat) u, (cellsE e)[r]? = some u → w.cell? ⟨g, b + r, none⟩ = some u) :
    w.cell? ⟨g, b + 0, none⟩ = some (S e.1) ∧ w.cell? ⟨g, b + 1 + 0, none⟩ = some (I (sHi e.2)) ∧ w.cell? ⟨g, b + 1 + 1, none⟩ = some (.int .u64 (sLo e.2)) ∧
    (∀ (j : Nat) u, [I (sHi e.2), .int .u64 (sLo e.2)][j]? = some u → w.cell? ⟨g, b + 1 + j, none⟩ = some u) ∧ ∀ (j : Nat) u, [S e.1, I (sHi e.2), .int .u64 (sLo e.2)][j]? = some u → w.cell? ⟨g, b + j, none⟩ = some u := by
  refine ⟨hc 0 _ rfl, hc 1 _ rfl, hc 2 _ rfl, fun j u hj => ?_, hc⟩
  have := hc (1 + j) u (by rw [Nat.add_comm]; exact hj)
  rwa [← Nat.add_assoc] at this
theorem s_zero {n : Int} (h : inW n) : (sHi n = 0 ∧ sLo n = 0) ↔ n = 0 := by
  have h1 := sN_in h
  unfold sHi sLo
  rw [h1]
  constructor
  · omega
  · rintro rfl; decide
theorem getI {α : Type} {l : List α} {i : Nat} (h : i < l.length) : ∃ a, l[i]? = some a := ⟨_, List.getElem?_eq_getElem h⟩

def okE (e : Ent) : Bool := rightB e.1 && e.2 != 0
def okAt (es : List Ent) (i : Nat) : Bool :=
  match es[i]? with
  | none => true
  | some e => okE e && (match i with
    | 0 => true
    | j + 1 => match es[j]? with
      | none => true
      | some p => lt p.1 e.1)
/-- May a vector be? -/
def rightV (es : List Ent) : Bool := (List.range es.length).all (okAt es)
theorem right_f {es : List Ent} {i : Nat} (hi : i < es.length) (h : okAt es i = false) : rightV es = false := by
  unfold rightV
  rw [List.all_eq_false]
  exact ⟨i, List.mem_range.2 hi, by rw [h]; decide⟩
theorem right_t {es : List Ent} (h : ∀ j, j < es.length → okAt es j = true) : rightV es = true := by
  unfold rightV
  rw [List.all_eq_true]
  exact fun j hj => h j (List.mem_range.1 hj)

set_option maxHeartbeats 4000000 in
theorem vright_ok (v : Value) (es : List Ent) (hwf : wfV es) (w : World) (hv : VecAt w v es) : Calls Try.prog 59 #[v] w fun e w' => e = .returned (.bool (rightV es)) ∧ Below w.heap.size w w' := by
  have hln := hwf.1
  obtain ⟨a, c, rfl, hat⟩ := OldRow.cells cellsE_len hv
  refine calls1 (args := [.slice a es.length c]) Try.func59 rfl rfl rfl rfl ?_
  repeat' (first | refine aw_seq ?_ | refine zz ?_ | refine zon fun _ => ?_ | refine zoa fun vr lr hr => ?_ | refine zoS (fun _ => ?_) (fun _ => ?_) | refine zqS (fun _ => ?_) (fun _ => ?_) | refine zwS (fun _ => ?_) (fun _ => ?_))
  refine aw_for (t0 := [(0, .slice a es.length c), (3, I (0 : Nat))]) (fun q t H => ∃ i : Nat, q = es.length - i ∧ i ≤ es.length ∧ (∀ j, j < i → okAt es j = true) ∧ t = [(0, .slice a es.length c), (3, I i)] ∧ H = []) ⟨0, rfl, by omega, fun j hj => by omega, rfl, rfl⟩ (by repeat (first | exact sub_nil | refine sub_cons rfl ?_)) ?_
  rintro q t H ⟨i, rfl, hi, hall, rfl, rfl⟩
  by_cases hlt : i < es.length
  · obtain ⟨e, he⟩ := getI hlt
    obtain ⟨g, o, rfl, hg, hc⟩ := hat i e (i : Int) he rfl
    obtain ⟨c0, c1, c2, -, -⟩ := ent_cells hc
    have hwe := hwf.at he
    have hz := s_zero hwe.2
    cases hr : rightB e.1
    · rw [right_f hlt (by unfold okAt; rw [he]; simp [okE, hr])]
      have hrr : ∀ w, Calls Try.prog 31 #[S e.1] w fun e w' => e = .returned (.bool false) ∧ Below w.heap.size w w' := fun w => hr ▸ rright_ok e.1 (by omega) w
      repeat' (first | refine aw_seq ?_ | refine zz ?_ | refine zon fun _ => ?_ | refine zoa fun vr lr hr => ?_ | ((first | apply ao_call | apply aq_call); exact wants_a; (first | exact oc_func rfl | exact oc_clos rfl rfl); (exact rfl); (first | exact fun w hw => hrr w)) | refine zoS (fun _ => ?_) (fun _ => ?_) | refine zqS (fun _ => ?_) (fun _ => ?_) | refine zwS (fun _ => ?_) (fun _ => ?_))
      exact fun w' hw => ⟨rfl, hw.below⟩
    have hrr : ∀ w, Calls Try.prog 31 #[S e.1] w fun e w' => e = .returned (.bool true) ∧ Below w.heap.size w w' := fun w => hr ▸ rright_ok e.1 (by omega) w
    by_cases hn : e.2 = 0
    · rw [right_f hlt (by unfold okAt; rw [he]; simp [okE, hn])]
      have h1 := (hz.2 hn).1
      have h2 := (hz.2 hn).2
      repeat' (first | refine aw_seq ?_ | refine zz ?_ | refine zon fun _ => ?_ | refine zoa fun vr lr hr => ?_ | ((first | apply ao_call | apply aq_call); exact wants_a; (first | exact oc_func rfl | exact oc_clos rfl rfl); (exact rfl); (first | exact fun w hw => hrr w)) | refine zoS (fun _ => ?_) (fun _ => ?_) | refine zqS (fun _ => ?_) (fun _ => ?_) | refine zwS (fun _ => ?_) (fun _ => ?_))
      exact fun w' hw => ⟨rfl, hw.below⟩
    repeat' (first | refine aw_cutI_at (id := 7) (fun t H => t = [(0, .slice (some ⟨g, o, none⟩) es.length c), (3, I i)] ∧ H = []) ?_ ?_ | refine aw_cutI_at2 (id := 7) (fun t H => t = [(0, .slice (some ⟨g, o, none⟩) es.length c), (3, I i)] ∧ H = []) ?_ ?_ | refine aw_seq ?_ | refine zz ?_ | refine zon fun _ => ?_ | refine zoa fun vr lr hr => ?_ | ((first | apply ao_call | apply aq_call); exact wants_a; (first | exact oc_func rfl | exact oc_clos rfl rfl); (exact rfl); (first | exact fun w hw => hrr w)) | refine zoS (fun _ => ?_) (fun _ => ?_) | refine zqS (fun _ => ?_) (fun _ => ?_) | refine zwS (fun _ => ?_) (fun _ => ?_))
    all_goals first | exact ci_normal ⟨rfl, rfl⟩ (by repeat (first | exact sub_nil | refine sub_cons rfl ?_)) hsub_a | (exfalso; apply hn; apply hz.1; simp_all; done) | skip
    rintro t H ⟨rfl, rfl⟩
    have hok : okE e = true := by simp [okE, hr, hn]
    by_cases hi0 : i = 0
    · subst hi0
      repeat' (first | refine aw_seq ?_ | refine zz ?_ | refine zon fun _ => ?_ | refine zoa fun vr lr hr => ?_ | refine zoS (fun _ => ?_) (fun _ => ?_) | refine zqS (fun _ => ?_) (fun _ => ?_) | refine zwS (fun _ => ?_) (fun _ => ?_))
      exact lq_normal ⟨1, rfl, by omega, fun j hj => (by obtain rfl : j = 0 := (by omega); unfold okAt; rw [he]; simp [hok]), rfl, rfl⟩ (by omega) (by repeat (first | exact sub_nil | refine sub_cons rfl ?_))
    · obtain ⟨k, rfl⟩ : ∃ k, i = k + 1 := ⟨i - 1, by omega⟩
      obtain ⟨p, hp⟩ := getI (show k < es.length by omega)
      obtain ⟨g', o', hgo, hg', hc'⟩ := hat k p (((k + 1 : Nat) : Int) - 1) hp (by omega)
      cases hgo
      obtain ⟨d0, -, -, -, -⟩ := ent_cells hc'
      have hwp := hwf.at hp
      have hoa : okAt es (k + 1) = lt p.1 e.1 := by
        unfold okAt; rw [he]; simp only [hp, hok, Bool.true_and]
      cases hlt2 : lt p.1 e.1
      · rw [right_f hlt (by rw [hoa, hlt2])]
        have hbb : ∀ w, Calls Try.prog 32 #[S p.1, S e.1] w fun e w' => e = .returned (.bool false) ∧ Below w.heap.size w w' := fun w => hlt2 ▸ before_ok p.1 e.1 (by omega) (by omega) w
        repeat' (first | refine aw_seq ?_ | refine zz ?_ | refine zon fun _ => ?_ | refine zoa fun vr lr hr => ?_ | ((first | apply ao_call | apply aq_call); exact wants_a; (first | exact oc_func rfl | exact oc_clos rfl rfl); (exact rfl); (first | exact fun w hw => hbb w)) | refine zoS (fun _ => ?_) (fun _ => ?_) | refine zqS (fun _ => ?_) (fun _ => ?_) | refine zwS (fun _ => ?_) (fun _ => ?_))
        exact fun w' hw => ⟨rfl, hw.below⟩
      · have hbb : ∀ w, Calls Try.prog 32 #[S p.1, S e.1] w fun e w' => e = .returned (.bool true) ∧ Below w.heap.size w w' := fun w => hlt2 ▸ before_ok p.1 e.1 (by omega) (by omega) w
        repeat' (first | refine aw_seq ?_ | refine zz ?_ | refine zon fun _ => ?_ | refine zoa fun vr lr hr => ?_ | ((first | apply ao_call | apply aq_call); exact wants_a; (first | exact oc_func rfl | exact oc_clos rfl rfl); (exact rfl); (first | exact fun w hw => hbb w)) | refine zoS (fun _ => ?_) (fun _ => ?_) | refine zqS (fun _ => ?_) (fun _ => ?_) | refine zwS (fun _ => ?_) (fun _ => ?_))
        exact lq_normal ⟨k + 1 + 1, rfl, by omega, fun j hj => by
          by_cases e1 : j = k + 1
          · subst e1; rw [hoa, hlt2]
          · exact hall j (by omega), rfl, rfl⟩ (by omega) (by repeat (first | exact sub_nil | refine sub_cons rfl ?_))
  · obtain rfl : i = es.length := by omega
    rw [right_t hall]
    repeat' (first | refine aw_seq ?_ | refine zz ?_ | refine zon fun _ => ?_ | refine zoa fun vr lr hr => ?_ | refine zoS (fun _ => ?_) (fun _ => ?_) | refine zqS (fun _ => ?_) (fun _ => ?_) | refine zwS (fun _ => ?_) (fun _ => ?_))
    exact fun w' hw => ⟨rfl, hw.below⟩

set_option maxHeartbeats 4000000 in
theorem vget_ok (v : Value) (es : List Ent) (m : Nm) (hwf : wfV es) (w : World) (hv : VecAt w v es) : Calls Try.prog 45 #[v, S m] w fun e w' => e = .returned (WV (getV es m)) ∧ Below w.heap.size w w' := by
  have hln := hwf.1
  obtain ⟨a, c, rfl, hat⟩ := OldRow.cells cellsE_len hv
  refine callsC1 (rt := 40) (args := [.slice a es.length c, S m]) Try.func45 rfl rfl rfl rfl ?_
  repeat' (first | refine aw_seq ?_ | refine zz ?_ | refine zon fun _ => ?_ | refine zoa fun vr lr hr => ?_ | refine zoS (fun _ => ?_) (fun _ => ?_) | refine zqS (fun _ => ?_) (fun _ => ?_) | refine zwS (fun _ => ?_) (fun _ => ?_))
  refine aw_for (t0 := [(0, .slice a es.length c), (1, S m), (4, .pointer (some ⟨_, 0, none⟩)), (5, I (0 : Nat))]) (fun q t H => ∃ (g i : Nat), q = es.length - i ∧ i ≤ es.length ∧ getV es m = getV (es.drop i) m ∧ t = [(0, .slice a es.length c), (1, S m), (4, .pointer (some ⟨g, 0, none⟩)), (5, I i)] ∧ H = [(g, .cells #[I 0, .int .u64 0] 40)]) ⟨_, 0, rfl, by omega, rfl, rfl, rfl⟩ (by repeat (first | exact sub_nil | refine sub_cons rfl ?_)) ?_
  rintro q t H ⟨g0, i, rfl, hi, hget, rfl, rfl⟩
  by_cases hlt : i < es.length
  · obtain ⟨e, he⟩ := getI hlt
    obtain ⟨g, o, rfl, hg, hc⟩ := hat i e (i : Int) he rfl
    obtain ⟨c0, c1, c2, cW, -⟩ := ent_cells hc
    have hd : es.drop i = e :: es.drop (i + 1) := by
      have := List.drop_eq_getElem_cons hlt
      rw [this, (List.getElem?_eq_some_iff.1 he).2]
    rw [hd] at hget
    by_cases hm : e.1 = m
    · have hmm : (e.1 == m) = true := beq_iff_eq.2 hm
      have hv : getV es m = e.2 := by rw [hget]; show (if e.1 = m then e.2 else _) = _; rw [if_pos hm]
      rw [hv]
      repeat' (first | refine aw_seq ?_ | ((first | apply ao_val | apply aq_val); exact wants_a; (first | exact ov_load_oa rfl hg cW rfl | exact ov_a); (exact rfl)) | refine zy ?_ | refine zon fun _ => ?_ | refine zoa fun vr lr hr => ?_ | refine zoS (fun _ => ?_) (fun _ => ?_) | refine zqS (fun _ => ?_) (fun _ => ?_) | refine zwS (fun _ => ?_) (fun _ => ?_))
      exact fun w' hw => ⟨rfl, hw.below⟩
    · have hmm : (e.1 == m) = false := beq_eq_false_iff_ne.2 hm
      have hv : getV es m = getV (es.drop (i + 1)) m := by rw [hget]; show (if e.1 = m then e.2 else _) = _; rw [if_neg hm]
      repeat' (first | refine aw_seq ?_ | refine zz ?_ | refine zon fun _ => ?_ | refine zoa fun vr lr hr => ?_ | refine zoS (fun _ => ?_) (fun _ => ?_) | refine zqS (fun _ => ?_) (fun _ => ?_) | refine zwS (fun _ => ?_) (fun _ => ?_))
      exact lq_normal ⟨g0, i + 1, rfl, by omega, hv, rfl, rfl⟩ (by omega) (by repeat (first | exact sub_nil | refine sub_cons rfl ?_))
  · have hnil : es.drop i = [] := List.drop_eq_nil_of_le (by omega)
    rw [hnil] at hget
    rw [hget]
    have hz : WV (getV [] m) = W2 0 0 := by kernel_rfl
    rw [hz]
    repeat' (first | refine aw_seq ?_ | refine zz ?_ | refine zon fun _ => ?_ | refine zoa fun vr lr hr => ?_ | refine zoS (fun _ => ?_) (fun _ => ?_) | refine zqS (fun _ => ?_) (fun _ => ?_) | refine zwS (fun _ => ?_) (fun _ => ?_))
    exact fun w' hw => ⟨rfl, hw.below⟩

theorem cell_same {e f : Ent} (he : inW e.2) (hf : inW f.2) (h : cellsE e = cellsE f) : e = f := by
  simp only [cellsE, List.cons.injEq, Value.string.injEq, Value.int.injEq, true_and, and_true] at h
  have h1 := sN_in he
  have h2 := sN_in hf
  have h3 : sN e.2 = sN f.2 := by
    have := h.2.1; have := h.2.2
    unfold sHi sLo at *
    omega
  refine Prod.ext ?_ (by rw [← h1, ← h2, h3])
  simpa [S] using h.1

theorem eqAll_ne {e f : Ent} (he : inW e.2) (hf : inW f.2) (h : e ≠ f) : (!(eqAll [S e.1, I (sHi e.2), .int .u64 (sLo e.2)] [S f.1, I (sHi f.2), .int .u64 (sLo f.2)])) = true := by
  by_cases hq : eqAll [S e.1, I (sHi e.2), .int .u64 (sLo e.2)] [S f.1, I (sHi f.2), .int .u64 (sLo f.2)] = true
  · exfalso
    apply h
    apply cell_same he hf
    simp only [eqAll, eqB, Bool.and_eq_true, beq_iff_eq] at hq
    obtain ⟨h1, h2, h3⟩ := hq
    have h1' : e.1 = f.1 := by simpa using h1
    unfold cellsE
    rw [h1', h2, h3]
  · simpa using hq

set_option maxHeartbeats 4000000 in
theorem vsame_ok (v u : Value) (es fs : List Ent) (hw1 : wfV es) (hw2 : wfV fs) (w : World) (hv : VecAt w v es) (hu : VecAt w u fs) : Calls Try.prog 9 #[v, u] w fun e w' => e = .returned (.bool (es == fs)) ∧ Below w.heap.size w w' := by
  have hln := hw1.1
  have hln2 := hw2.1
  obtain ⟨a, c, rfl, hat⟩ := OldRow.cells cellsE_len hv
  obtain ⟨a2, c2, rfl, hat2⟩ := OldRow.cells cellsE_len hu
  refine calls1 (args := [.slice a es.length c, .slice a2 fs.length c2]) Try.func9 rfl rfl rfl rfl ?_
  by_cases hlen : es.length = fs.length
  · rw [← hlen]
    have hle : ((es.length : Int) != (es.length : Int)) = false := bne_self_eq_false _
    repeat' (first | refine aw_seq ?_ | refine zz ?_ | refine zon fun _ => ?_ | refine zoa fun vr lr hr => ?_ | refine zoS (fun _ => ?_) (fun _ => ?_) | refine zqS (fun _ => ?_) (fun _ => ?_) | refine zwS (fun _ => ?_) (fun _ => ?_))
    refine aw_for (t0 := [(0, .slice a es.length c), (1, .slice a2 es.length c2), (5, I (0 : Nat))]) (fun q t H => ∃ (i : Nat), q = es.length - i ∧ i ≤ es.length ∧ es.take i = fs.take i ∧ t = [(0, .slice a es.length c), (1, .slice a2 es.length c2), (5, I i)] ∧ H = []) ⟨0, rfl, by omega, rfl, rfl, rfl⟩ (by repeat (first | exact sub_nil | refine sub_cons rfl ?_)) ?_
    rintro q t H ⟨i, rfl, hi, htake, rfl, rfl⟩
    by_cases hlt : i < es.length
    · obtain ⟨e, he⟩ := getI hlt
      obtain ⟨f, hf⟩ := getI (show i < fs.length by omega)
      obtain ⟨g, o, rfl, hg, hc⟩ := hat i e (i : Int) he rfl
      obtain ⟨g2, o2, rfl, hg2, hc2⟩ := hat2 i f (i : Int) hf rfl
      obtain ⟨-, -, -, -, cA⟩ := ent_cells hc
      obtain ⟨-, -, -, -, cB⟩ := ent_cells hc2
      by_cases hef : e = f
      · subst hef
        repeat' (first | refine aw_seq ?_ | ((first | apply ao_val | apply aq_val); exact wants_a; (first | exact ov_load_oa rfl hg cA rfl | exact ov_load_oa rfl hg2 cB rfl | exact ov_a); (exact rfl)) | refine zy ?_ | refine zon fun _ => ?_ | refine zoa fun vr lr hr => ?_ | refine zoS (fun _ => ?_) (fun _ => ?_) | refine zqS (fun _ => ?_) (fun _ => ?_) | refine zwS (fun _ => ?_) (fun _ => ?_))
        exact lq_normal ⟨i + 1, rfl, by omega, by rw [List.take_add_one, List.take_add_one, htake, he, hf], rfl, rfl⟩ (by omega) (by repeat (first | exact sub_nil | refine sub_cons rfl ?_))
      · have hne : es ≠ fs := fun h => by rw [h, hf] at he; cases he; exact hef rfl
        rw [show (es == fs) = false from beq_eq_false_iff_ne.2 hne]
        have hb := eqAll_ne (hw1.at he).2 (hw2.at hf).2 hef
        repeat' (first | refine aw_seq ?_ | ((first | apply ao_val | apply aq_val); exact wants_a; (first | exact ov_load_oa rfl hg cA rfl | exact ov_load_oa rfl hg2 cB rfl | exact ov_a); (exact rfl)) | refine zy ?_ | refine zon fun _ => ?_ | refine zoa fun vr lr hr => ?_ | refine zoS (fun _ => ?_) (fun _ => ?_) | refine zqS (fun _ => ?_) (fun _ => ?_) | refine zwS (fun _ => ?_) (fun _ => ?_))
        exact fun w' hw => ⟨rfl, hw.below⟩
    · obtain rfl : i = es.length := by omega
      have : es = fs := by rw [List.take_length, hlen, List.take_length] at htake; exact htake
      rw [show (es == fs) = true from beq_iff_eq.2 this]
      repeat' (first | refine aw_seq ?_ | refine zz ?_ | refine zon fun _ => ?_ | refine zoa fun vr lr hr => ?_ | refine zoS (fun _ => ?_) (fun _ => ?_) | refine zqS (fun _ => ?_) (fun _ => ?_) | refine zwS (fun _ => ?_) (fun _ => ?_))
      exact fun w' hw => ⟨rfl, hw.below⟩
  · have hle : ((es.length : Int) != (fs.length : Int)) = true := bne_iff_ne.2 (by omega)
    rw [show (es == fs) = false from beq_eq_false_iff_ne.2 fun h => hlen (by rw [h])]
    repeat' (first | refine aw_seq ?_ | refine zz ?_ | refine zon fun _ => ?_ | refine zoa fun vr lr hr => ?_ | refine zoS (fun _ => ?_) (fun _ => ?_) | refine zqS (fun _ => ?_) (fun _ => ?_) | refine zwS (fun _ => ?_) (fun _ => ?_))
    exact fun w' hw => ⟨rfl, hw.below⟩

end Vec
end Go.Proofs.Ythabchmfhfhcaaa
