/- The document's answer for layer 11 in the own heap: Begin, Remove, Create; conditions: at most 200 nodes, texts of at most 100,000 bytes. -/
import Derived.Test.YtonhfddklkbnbaaTro
import Derived.Test.YtonhfddklkbnbaaLabs
namespace Go.Proofs.Ytonhfddklkbnbaa
namespace Trt
open Go Go.RowKit Sx
attribute [local irreducible] Go.Calls

instance : TyPtr Try.prog 29 65 := ⟨by kernel_rfl⟩
theorem flat2 (es : Tr) : (es.flatMap cells2).all flat = true := by
  rw [List.all_eq_true]
  intro x hx
  obtain ⟨e, -, hxe⟩ := List.mem_flatMap.1 hx
  unfold cells2 at hxe
  simp only [List.mem_cons, List.not_mem_nil, or_false] at hxe
  rcases hxe with h | h <;> subst h <;> rfl
/-- The document's tree in the own heap. -/
def RTr (g : Nat) (t : Tr) (l : Hp) : Prop := ∃ v lN, l = (g, .cells #[v] 65 (0, 0)) :: lN ∧ RowB 62 2 v lN t.length (t.flatMap cells2)
theorem tAt_of {n : Nat} {w0 w : World} {H R1 lN : Hp} {g : Nat} {t : Tr} {v : Value} (h : RepH ⟨w0.heap.size, w0, n⟩ H w) (hb : Has H g (.cells #[v] 65 (0, 0)))
    (hN : RowB 62 2 v lN t.length (t.flatMap cells2)) (c1 : Cut H lN R1) : TAt w g t v := by
  have hg := (h.has hb).2
  have hg2 : w.heap[g]? = some (.cells (List.toArray [v]) 65 (0, 0)) := hg
  exact ⟨(Array.getElem?_eq_some_iff.1 hg).1, by rw [cell_of hg2]; rfl, h.oldr hN c1⟩
theorem RTr.tAt {n : Nat} {w0 w : World} {H R l : Hp} {g : Nat} {t : Tr} (h : RTr g t l) (hw : RepH ⟨w0.heap.size, w0, n⟩ H w) (hc : Cut H l R) : ∃ v, TAt w g t v := by
  obtain ⟨v, lN, rfl, h1⟩ := h
  have hb : Has H g (.cells #[v] 65 (0, 0)) := by
    unfold Has
    exact (List.Perm.mem_iff hc).2 (List.mem_append_left _ List.mem_cons_self)
  have hc2 : Cut H lN ((g, .cells #[v] 65 (0, 0)) :: R) := by
    unfold Cut at *
    exact hc.trans List.perm_middle.symm
  exact ⟨v, tAt_of hw hb h1 hc2⟩
/-- What a call on the document's tree leaves. -/
def RDid (g : Nat) (x : Int × Tr) (R : Hp) (u : Value) (H' : Hp) : Prop := u = I x.1 ∧ ∃ l', H' = l' ++ R ∧ RTr g x.2 l'
def Tr.new : Tr := [(rootN, [])]
theorem rbegin_ok (w : World) : Calls Try.prog 9 #[] w fun e w' => ∃ r, e = .returned r ∧ NewD (fun r l => ∃ g, r = .pointer (some ⟨g, 0, none⟩) ∧ RTr g Tr.new l) w w' r := by
  refine calls1 (args := []) Try.func9 rfl rfl rfl rfl ?_
  repeat' (first | refine aw_seq ?_ | refine zz ?_ | refine zon fun _ => ?_ | refine zoa fun vr lr hr => ?_ | refine zoS (fun _ => ?_) (fun _ => ?_) | refine zqS (fun _ => ?_) (fun _ => ?_) | refine zwS (fun _ => ?_) (fun _ => ?_))
  refine fun w' hw => ⟨_, rfl, hw.toD rfl (l := [_, _]) (R := []) (List.Perm.refl _) ⟨_, rfl, _, _, rfl, rfl, .inr ⟨_, 1, _, rfl, rfl, Nat.le_refl _, rfl, rfl⟩⟩⟩
def reN (t : Tr) (n : Nm) (i : Nat) : Tr := (t.take i).filter fun e => decide (e.1 ≠ n)
theorem reN_s {t : Tr} {n : Nm} {i : Nat} {e : Nm × Nm} (he : t[i]? = some e) : reN t n (i + 1) = reN t n i ++ (if e.1 ≠ n then [e] else []) := by
  unfold reN
  rw [List.take_add_one, he, List.filter_append]
  congr 1
  show (List.filter _ [e]) = _
  by_cases h : e.1 ≠ n
  · rw [if_pos h, List.filter_cons, if_pos (decide_eq_true h)]; rfl
  · rw [if_neg h, List.filter_cons, if_neg (by rw [decide_eq_false h]; decide)]; rfl
theorem reN_len (t : Tr) (n : Nm) (i : Nat) : (reN t n i).length ≤ i := by
  unfold reN
  have := List.length_filter_le (fun e : Nm × Nm => decide (e.1 ≠ n)) (t.take i)
  rw [List.length_take] at this
  omega
theorem row22 {v : Value} {l : Hp} {ks : Tr} {k j : Nm × Nm} {e : TypeId} (h : RowB e 2 v l (ks.length + 1 + 1) (ks.flatMap cells2 ++ [S k.1, S k.2] ++ [S j.1, S j.2])) : RowB e 2 v l (ks ++ [k] ++ [j]).length ((ks ++ [k] ++ [j]).flatMap cells2) := by
  rw [List.length_append, List.length_append, List.flatMap_append, List.flatMap_append]
  exact h
theorem row2 {v : Value} {l : Hp} {ks : Tr} {k : Nm × Nm} {e : TypeId} (h : RowB e 2 v l (ks.length + 1) (ks.flatMap cells2 ++ [S k.1, S k.2])) : RowB e 2 v l (ks ++ [k]).length ((ks ++ [k]).flatMap cells2) := by
  rw [List.length_append, List.flatMap_append]
  exact h
set_option maxHeartbeats 16000000 in
theorem rrem_ok {m : Nat} {w0 : World} {g : Nat} {t : Tr} {l : Hp} (h : RTr g t l) (h0 : 0 < t.length) (hl : t.length ≤ 200) (n : Nm) (R : Hp) :
    CallsH Try.prog ⟨w0.heap.size, w0, m⟩ 31 [.pointer (some ⟨g, 0, none⟩), S n] (l ++ R) (RDid g (removeT t n) R) := by
  obtain ⟨v, lN, rfl, hN⟩ := h
  rw [List.cons_append]
  refine callsH1p (args := [.pointer (some ⟨g, 0, none⟩), S n]) Try.func31 rfl rfl rfl rfl ?_
  have same : ∀ er : Int, RDid g (er, t) R (I er) ((g, .cells #[v] 65 (0, 0)) :: (lN ++ R)) := fun er => ⟨rfl, _, by rw [← List.cons_append], v, lN, rfl, hN⟩
  have hh := fun w' (h : TAt w' g t v) => rhas_ok h (by omega) n
  have hc := fun w' (h : TAt w' g t v) => rchild_ok h (by omega) n
  unfold removeT
  cases hx : hasT t n
  · rw [if_pos rfl]
    rw [hx] at hh
    repeat' (first | refine aw_seq ?_ | ((first | apply ao_val | apply aq_val); exact wants_a; (first | exact ov_nilcheck rfl | exact ov_a); (exact rfl)) | refine zy ?_ | refine zon fun _ => ?_ | refine zoa fun vr lr hr => ?_ | ((first | apply ao_call | apply aq_call); exact wants_a; (first | exact oc_func rfl | exact oc_clos rfl rfl | exact oc_bnd rfl rfl); (exact rfl); (first | exact fun w hw => hh w (tAt_of hw has_a hN cut_a))) | refine zoS (fun _ => ?_) (fun _ => ?_) | refine zqS (fun _ => ?_) (fun _ => ?_) | refine zwS (fun _ => ?_) (fun _ => ?_))
    exact ⟨_, _, hsub_a, List.Perm.refl _, same 4⟩
  rw [if_neg (by decide)]
  rw [hx] at hh
  by_cases hrt : n = rootN
  · rw [if_pos hrt]
    subst hrt
    repeat' (first | refine aw_seq ?_ | ((first | apply ao_val | apply aq_val); exact wants_a; (first | exact ov_nilcheck rfl | exact ov_a); (exact rfl)) | refine zy ?_ | refine zon fun _ => ?_ | refine zoa fun vr lr hr => ?_ | ((first | apply ao_call | apply aq_call); exact wants_a; (first | exact oc_func rfl | exact oc_clos rfl rfl | exact oc_bnd rfl rfl); (exact rfl); (first | exact fun w hw => hh w (tAt_of hw has_a hN cut_a))) | refine zoS (fun _ => ?_) (fun _ => ?_) | refine zqS (fun _ => ?_) (fun _ => ?_) | refine zwS (fun _ => ?_) (fun _ => ?_))
    exact ⟨_, _, hsub_a, List.Perm.refl _, same 1⟩
  rw [if_neg hrt]
  have er : (n == rootN) = false := beq_eq_false_iff_ne.2 hrt
  by_cases hch : childT t n ≠ []
  · rw [if_pos hch]
    have hpos : (0 : Int) < (childT t n).length := by have := List.length_pos_iff.2 hch; omega
    repeat' (first | refine aw_seq ?_ | ((first | apply ao_val | apply aq_val); exact wants_a; (first | exact ov_nilcheck rfl | exact ov_lenr rfl hr | exact ov_a); (exact rfl)) | refine zy ?_ | refine zon fun _ => ?_ | refine zoa fun vr lr hr => ?_ | ((first | apply ao_call | apply aq_call); exact wants_a; (first | exact oc_func rfl | exact oc_clos rfl rfl | exact oc_bnd rfl rfl); (exact rfl); (first | exact fun w hw => hh w (tAt_of hw has_a hN cut_a))) | (apply ao_callr; exact wants_a; (exact oc_func rfl); (exact rfl); (first | exact fun w hw => hc w (tAt_of hw has_a hN cut_a)); intro vr lr hr) | refine zoS (fun _ => ?_) (fun _ => ?_) | refine zqS (fun _ => ?_) (fun _ => ?_) | refine zwS (fun _ => ?_) (fun _ => ?_))
    exact ⟨_, _, hsub_a, List.Perm.refl _, same 10⟩
  rw [if_neg hch]
  have hch2 : childT t n = [] := by simpa using hch
  rw [hch2] at hc
  obtain ⟨gN, capN, csN, rfl, rfl, hcap, hlen, htk, hcell⟩ := openB cells2_len hN h0
  repeat' (first | refine aw_seq ?_ | ((first | apply ao_val | apply aq_val); exact wants_a; (first | exact ov_nilcheck rfl | exact ov_lenr rfl hr | exact ov_a); (exact rfl)) | refine zy ?_ | refine zon fun _ => ?_ | refine zoa fun vr lr hr => ?_ | ((first | apply ao_call | apply aq_call); exact wants_a; (first | exact oc_func rfl | exact oc_clos rfl rfl | exact oc_bnd rfl rfl); (exact rfl); (first | exact fun w hw => hh w (tAt_of hw has_a hN cut_a))) | (apply ao_callr; exact wants_a; (exact oc_func rfl); (exact rfl); (first | exact fun w hw => hc w (tAt_of hw has_a hN cut_a)); intro vr lr hr) | refine zoS (fun _ => ?_) (fun _ => ?_) | refine zqS (fun _ => ?_) (fun _ => ?_) | refine zwS (fun _ => ?_) (fun _ => ?_))
  refine aw_forH (t0 := [(0, .pointer (some ⟨g, 0, none⟩)), (1, S n), (5, .slice none 0 0), (6, I (0 : Nat))]) (fun q tm H => ∃ (i : Nat) (v5 : Value) (l5 : Hp), q = t.length - i ∧ i ≤ t.length ∧ RowB 62 2 v5 l5 (reN t n i).length ((reN t n i).flatMap cells2) ∧ tm = [(0, .pointer (some ⟨g, 0, none⟩)), (1, S n), (5, v5), (6, I i)] ∧ H = l5 ++ ((g, .cells #[.slice (some ⟨gN, 0, none⟩) t.length capN] 65 (0, 0)) :: ((gN, .cells csN.toArray 62 (0, 0)) :: R)))
    ⟨0, _, [], rfl, by omega, RowB.nil, rfl, rfl⟩ (by repeat (first | exact sub_nil | refine sub_cons rfl ?_)) (by repeat (first | exact List.Sublist.refl _ | apply hs_app | apply hs_keep | apply hs_skip | apply hs_app0)) ?_
  rintro q tm H ⟨i, v5, l5, rfl, hi, r5, rfl, rfl⟩
  obtain ⟨a5, c5, hv5⟩ := r5.len
  subst hv5
  have hln := reN_len t n i
  by_cases hlt : i < t.length
  · obtain ⟨⟨x, p⟩, he⟩ := getP hlt
    have cX : csN[0 + (i : Int).toNat * 2 + 0]? = some (S x) := hcell i _ (i : Int) 0 _ he rfl rfl
    have slX : sl (0 + (i : Int).toNat * 2) 2 csN = some [S x, S p] := sl_of (vs := cells2 (x, p)) (.inl (Nat.zero_lt_succ _)) fun j y hj => hcell i _ (i : Int) j y he rfl hj
    have hnx := reN_s (n := n) he
    simp only at hnx
    by_cases hk : x = n
    · rw [if_neg fun h => h hk, List.append_nil] at hnx
      have ek : (x != n) = false := by rw [hk]; exact bne_self_eq_false _
      repeat' (first | refine aw_seq ?_ | ((first | apply ao_val | apply aq_val); exact wants_a; (first | exact ov_nilcheck rfl | exact ov_a); (exact rfl)) | refine zy ?_ | refine zon fun _ => ?_ | refine zoa fun vr lr hr => ?_ | refine zoS (fun _ => ?_) (fun _ => ?_) | refine zqS (fun _ => ?_) (fun _ => ?_) | refine zwS (fun _ => ?_) (fun _ => ?_))
      exact lq_normal' ⟨i + 1, _, _, rfl, by omega, by rw [hnx]; exact r5, rfl, rfl⟩ (by omega) (by repeat (first | exact sub_nil | refine sub_cons rfl ?_)) hsub_a
    · rw [if_pos hk] at hnx
      have ek : (x != n) = true := bne_iff_ne.2 hk
      repeat' (first | refine aw_seq ?_ | ((first | apply ao_val | apply aq_val); exact wants_a; (first | exact ov_nilcheck rfl | exact ov_a); (exact rfl)) | refine zy ?_ | refine zon fun _ => ?_ | refine zoa fun vr lr hr => ?_ | refine zoS (fun _ => ?_) (fun _ => ?_) | refine zqS (fun _ => ?_) (fun _ => ?_) | refine zwS (fun _ => ?_) (fun _ => ?_))
      exact lq_normal' ⟨i + 1, _, _, rfl, by omega, by rw [hnx]; exact row2 (by assumption), rfl, rfl⟩ (by omega) (by repeat (first | exact sub_nil | refine sub_cons rfl ?_)) hsub_a
  · obtain rfl : i = t.length := by omega
    have e5 : reN t n t.length = t.filter fun e => decide (e.1 ≠ n) := by unfold reN; rw [List.take_length]
    repeat' (first | refine aw_seq ?_ | ((first | apply ao_val | apply aq_val); exact wants_a; (first | exact ov_nilcheck rfl | exact ov_a); (exact rfl)) | refine zy ?_ | refine zon fun _ => ?_ | refine zoa fun vr lr hr => ?_ | refine zoS (fun _ => ?_) (fun _ => ?_) | refine zqS (fun _ => ?_) (fun _ => ?_) | refine zwS (fun _ => ?_) (fun _ => ?_))
    exact ⟨l5 ++ ((g, .cells #[.slice a5 (reN t n t.length).length c5] 65 (0, 0)) :: R), _, hsub_a, perm_m, rfl, _, rfl, _, _, rfl, by rw [← e5]; exact r5⟩
theorem insT_no {x : Nm × Nm} : ∀ {l : Tr}, (∀ e ∈ l, Op.bytesLess x.1 e.1 = false) → insT x l = l ++ [x]
  | [], _ => rfl
  | a :: l, h => by
    unfold insT
    rw [if_neg (by rw [h a List.mem_cons_self]; decide), insT_no fun e he => h e (List.mem_cons_of_mem _ he)]
    rfl
theorem insT_new {x e : Nm × Nm} (hx : Op.bytesLess x.1 e.1 = true) : ∀ {l : Tr}, (∀ e ∈ l, Op.bytesLess x.1 e.1 = false) → insT x (l ++ [e]) = l ++ [x] ++ [e]
  | [], _ => by
    show insT x [e] = _
    unfold insT
    rw [if_pos hx]
    rfl
  | a :: l, h => by
    show insT x (a :: (l ++ [e])) = _
    unfold insT
    rw [if_neg (by rw [h a List.mem_cons_self]; decide), insT_new hx fun e he => h e (List.mem_cons_of_mem _ he)]
    rfl
theorem insT_old {x e : Nm × Nm} : ∀ {l : Tr}, (∃ e ∈ l, Op.bytesLess x.1 e.1 = true) → insT x (l ++ [e]) = insT x l ++ [e]
  | [], h => by obtain ⟨_, h, _⟩ := h; cases h
  | a :: l, h => by
    show insT x (a :: (l ++ [e])) = _
    unfold insT
    by_cases ha : Op.bytesLess x.1 a.1 = true
    · rw [if_pos ha, if_pos ha]; rfl
    · rw [if_neg ha, if_neg ha, insT_old]
      · rfl
      · obtain ⟨y, hy, hb⟩ := h
        rcases List.mem_cons.1 hy with rfl | hy
        · exact absurd hb ha
        · exact ⟨y, hy, hb⟩
/-- What Create has made of the first so many. -/
def InsN (x : Nm × Nm) (t : Tr) (i : Nat) (D : Bool) (out : Tr) : Prop :=
  (D = true ∧ (∃ e ∈ t.take i, Op.bytesLess x.1 e.1 = true) ∧ out = insT x (t.take i)) ∨ (D = false ∧ (∀ e ∈ t.take i, Op.bytesLess x.1 e.1 = false) ∧ out = t.take i)
theorem InsN.len {x : Nm × Nm} {t : Tr} {i : Nat} {D : Bool} {out : Tr} (h : InsN x t i D out) : out.length ≤ i + 1 := by
  have := List.length_take_le i t
  rcases h with ⟨-, -, rfl⟩ | ⟨-, -, rfl⟩
  · rw [insT_len]; omega
  · omega
theorem InsN.done {x : Nm × Nm} {t : Tr} {i : Nat} {out : Tr} {e : Nm × Nm} (h : InsN x t i true out) (he : t[i]? = some e) : InsN x t (i + 1) true (out ++ [e]) := by
  rcases h with ⟨-, h2, rfl⟩ | ⟨h1, -⟩
  · refine .inl ⟨rfl, ?_, ?_⟩
    · obtain ⟨y, hy, hb⟩ := h2
      exact ⟨y, by rw [List.take_add_one]; exact List.mem_append_left _ hy, hb⟩
    · rw [List.take_add_one, he]; exact (insT_old h2).symm
  · cases h1
theorem InsN.here {x : Nm × Nm} {t : Tr} {i : Nat} {out : Tr} {e : Nm × Nm} (h : InsN x t i false out) (he : t[i]? = some e) (hb : Op.bytesLess x.1 e.1 = true) : InsN x t (i + 1) true (out ++ [x] ++ [e]) := by
  rcases h with ⟨h1, -⟩ | ⟨-, h2, rfl⟩
  · cases h1
  · refine .inl ⟨rfl, ⟨e, by rw [List.take_add_one, he]; exact List.mem_append_right _ List.mem_cons_self, hb⟩, ?_⟩
    rw [List.take_add_one, he]
    exact (insT_new hb h2).symm
theorem InsN.next {x : Nm × Nm} {t : Tr} {i : Nat} {out : Tr} {e : Nm × Nm} (h : InsN x t i false out) (he : t[i]? = some e) (hb : Op.bytesLess x.1 e.1 = false) : InsN x t (i + 1) false (out ++ [e]) := by
  rcases h with ⟨h1, -⟩ | ⟨-, h2, rfl⟩
  · cases h1
  · refine .inr ⟨rfl, fun y hy => ?_, by rw [List.take_add_one, he]; rfl⟩
    rw [List.take_add_one, he] at hy
    rcases List.mem_append.1 hy with hy | hy
    · exact h2 y hy
    · cases List.mem_singleton.1 hy; exact hb
theorem InsN.end_t {x : Nm × Nm} {t out : Tr} (h : InsN x t t.length true out) : insT x t = out := by
  rcases h with ⟨-, -, rfl⟩ | ⟨h1, -⟩
  · rw [List.take_length]
  · cases h1
theorem InsN.end_f {x : Nm × Nm} {t out : Tr} (h : InsN x t t.length false out) : insT x t = out ++ [x] := by
  rcases h with ⟨h1, -⟩ | ⟨-, h2, rfl⟩
  · cases h1
  · rw [List.take_length] at h2 ⊢
    exact insT_no h2
set_option maxHeartbeats 16000000 in
theorem rcreate_ok {m : Nat} {w0 : World} {g : Nat} {t : Tr} {l : Hp} (h : RTr g t l) (h0 : 0 < t.length) (hl : t.length ≤ 200) (hd : ∀ e ∈ t, (pathT t e.1).length ≤ 8) (hn : ∀ e ∈ t, e.1.length ≤ 100) (n p : Nm) (hln : n.length ≤ 100) (R : Hp) :
    CallsH Try.prog ⟨w0.heap.size, w0, m⟩ 32 [.pointer (some ⟨g, 0, none⟩), S n, S p] (l ++ R) (RDid g (createT (Lab.rightB n) t n p) R) := by
  obtain ⟨v, lN, rfl, hN⟩ := h
  rw [List.cons_append]
  refine callsH1p (args := [.pointer (some ⟨g, 0, none⟩), S n, S p]) Try.func32 rfl rfl rfl rfl ?_
  have same : ∀ er : Int, RDid g (er, t) R (I er) ((g, .cells #[v] 65 (0, 0)) :: (lN ++ R)) := fun er => ⟨rfl, _, by rw [← List.cons_append], v, lN, rfl, hN⟩
  have hr := fun w' => Lab.rright_ok n (by omega) w'
  have hh := fun w' (h : TAt w' g t v) => rhas_ok h (by omega) n
  have hq := fun w' (h : TAt w' g t v) => rhas_ok h (by omega) p
  have hpa := fun w' (h : TAt w' g t v) (hk : (pathT t p).length ≤ 8) => rpath_ok h (by omega) 9 (by omega) p (by unfold pathT at hk; omega)
  unfold createT
  cases hx : Lab.rightB n
  · rw [if_pos rfl]
    rw [hx] at hr
    repeat' (first | refine aw_seq ?_ | ((first | apply ao_val | apply aq_val); exact wants_a; (first | exact ov_nilcheck rfl | exact ov_a); (exact rfl)) | refine zy ?_ | refine zon fun _ => ?_ | refine zoa fun vr lr hr => ?_ | ((first | apply ao_call | apply aq_call); exact wants_a; (first | exact oc_func rfl | exact oc_clos rfl rfl | exact oc_bnd rfl rfl); (exact rfl); (first | exact fun w hw => hr w)) | refine zoS (fun _ => ?_) (fun _ => ?_) | refine zqS (fun _ => ?_) (fun _ => ?_) | refine zwS (fun _ => ?_) (fun _ => ?_))
    exact ⟨_, _, hsub_a, List.Perm.refl _, same 1⟩
  rw [if_neg (by decide)]
  rw [hx] at hr
  by_cases hx2 : hasT t n = true
  · rw [if_pos hx2]
    rw [hx2] at hh
    repeat' (first | refine aw_seq ?_ | ((first | apply ao_val | apply aq_val); exact wants_a; (first | exact ov_nilcheck rfl | exact ov_a); (exact rfl)) | refine zy ?_ | refine zon fun _ => ?_ | refine zoa fun vr lr hr => ?_ | ((first | apply ao_call | apply aq_call); exact wants_a; (first | exact oc_func rfl | exact oc_clos rfl rfl | exact oc_bnd rfl rfl); (exact rfl); (first | exact fun w hw => hr w | exact fun w hw => hh w (tAt_of hw has_a hN cut_a))) | refine zoS (fun _ => ?_) (fun _ => ?_) | refine zqS (fun _ => ?_) (fun _ => ?_) | refine zwS (fun _ => ?_) (fun _ => ?_))
    exact ⟨_, _, hsub_a, List.Perm.refl _, same 5⟩
  rw [if_neg hx2]
  rw [show hasT t n = false by simpa using hx2] at hh
  cases hx3 : hasT t p
  · rw [if_pos rfl]
    rw [hx3] at hq
    repeat' (first | refine aw_seq ?_ | ((first | apply ao_val | apply aq_val); exact wants_a; (first | exact ov_nilcheck rfl | exact ov_a); (exact rfl)) | refine zy ?_ | refine zon fun _ => ?_ | refine zoa fun vr lr hr => ?_ | ((first | apply ao_call | apply aq_call); exact wants_a; (first | exact oc_func rfl | exact oc_clos rfl rfl | exact oc_bnd rfl rfl); (exact rfl); (first | exact fun w hw => hr w | exact fun w hw => hh w (tAt_of hw has_a hN cut_a) | exact fun w hw => hq w (tAt_of hw has_a hN cut_a))) | refine zoS (fun _ => ?_) (fun _ => ?_) | refine zqS (fun _ => ?_) (fun _ => ?_) | refine zwS (fun _ => ?_) (fun _ => ?_))
    exact ⟨_, _, hsub_a, List.Perm.refl _, same 4⟩
  rw [if_neg (by decide)]
  rw [hx3] at hq
  have hp8 : (pathT t p).length ≤ 8 := by
    obtain ⟨e, he, rfl⟩ := has_iff.1 hx3
    exact hd e he
  have hpa2 := fun w' h => hpa w' h hp8
  obtain ⟨L, hL⟩ : ∃ L, pathT t p = L := ⟨_, rfl⟩
  rw [show pathN t 9 p = L from hL] at hpa2
  rw [hL] at hp8 ⊢
  clear hpa
  by_cases hx4 : 8 < L.length + 1
  · rw [if_pos hx4]
    repeat' (first | refine aw_seq ?_ | ((first | apply ao_val | apply aq_val); exact wants_a; (first | exact ov_nilcheck rfl | exact ov_lenr rfl (by assumption) | exact ov_a); (exact rfl)) | refine zy ?_ | refine zon fun _ => ?_ | refine zoa fun vr lr hr => ?_ | ((first | apply ao_call | apply aq_call); exact wants_a; (first | exact oc_func rfl | exact oc_clos rfl rfl | exact oc_bnd rfl rfl); (exact rfl); (first | exact fun w hw => hr w | exact fun w hw => hh w (tAt_of hw has_a hN cut_a) | exact fun w hw => hq w (tAt_of hw has_a hN cut_a))) | (apply ao_callr; exact wants_a; (exact oc_func rfl); (exact rfl); (first | exact fun w hw => hpa2 w (tAt_of hw has_a hN cut_a)); intro vr lr hr) | refine zoS (fun _ => ?_) (fun _ => ?_) | refine zqS (fun _ => ?_) (fun _ => ?_) | refine zwS (fun _ => ?_) (fun _ => ?_))
    exact ⟨_, _, hsub_a, List.Perm.refl _, same 9⟩
  rw [if_neg hx4]
  obtain ⟨gN, capN, csN, rfl, rfl, hcap, hlen, htk, hcell⟩ := openB cells2_len hN h0
  by_cases hx5 : 200 < t.length + 1
  · rw [if_pos hx5]
    repeat' (first | refine aw_seq ?_ | ((first | apply ao_val | apply aq_val); exact wants_a; (first | exact ov_nilcheck rfl | exact ov_lenr rfl (by assumption) | exact ov_a); (exact rfl)) | refine zy ?_ | refine zon fun _ => ?_ | refine zoa fun vr lr hr => ?_ | ((first | apply ao_call | apply aq_call); exact wants_a; (first | exact oc_func rfl | exact oc_clos rfl rfl | exact oc_bnd rfl rfl); (exact rfl); (first | exact fun w hw => hr w | exact fun w hw => hh w (tAt_of hw has_a hN cut_a) | exact fun w hw => hq w (tAt_of hw has_a hN cut_a))) | (apply ao_callr; exact wants_a; (exact oc_func rfl); (exact rfl); (first | exact fun w hw => hpa2 w (tAt_of hw has_a hN cut_a)); intro vr lr hr) | refine zoS (fun _ => ?_) (fun _ => ?_) | refine zqS (fun _ => ?_) (fun _ => ?_) | refine zwS (fun _ => ?_) (fun _ => ?_))
    exact ⟨_, _, hsub_a, List.Perm.refl _, same 3⟩
  rw [if_neg hx5]
  repeat' (first | refine aw_seq ?_ | ((first | apply ao_val | apply aq_val); exact wants_a; (first | exact ov_nilcheck rfl | exact ov_lenr rfl (by assumption) | exact ov_a); (exact rfl)) | refine zy ?_ | refine zon fun _ => ?_ | refine zoa fun vr lr hr => ?_ | ((first | apply ao_call | apply aq_call); exact wants_a; (first | exact oc_func rfl | exact oc_clos rfl rfl | exact oc_bnd rfl rfl); (exact rfl); (first | exact fun w hw => hr w | exact fun w hw => hh w (tAt_of hw has_a hN cut_a) | exact fun w hw => hq w (tAt_of hw has_a hN cut_a))) | (apply ao_callr; exact wants_a; (exact oc_func rfl); (exact rfl); (first | exact fun w hw => hpa2 w (tAt_of hw has_a hN cut_a)); intro vr lr hr) | refine zoS (fun _ => ?_) (fun _ => ?_) | refine zqS (fun _ => ?_) (fun _ => ?_) | refine zwS (fun _ => ?_) (fun _ => ?_))
  refine aw_forH (t0 := [(0, .pointer (some ⟨g, 0, none⟩)), (1, S n), (2, S p), (8, .slice none 0 0), (9, .bool false), (10, I (0 : Nat))]) (fun q tm H => ∃ (i : Nat) (D : Bool) (out : Tr) (v5 : Value) (l5 : Hp), q = t.length - i ∧ i ≤ t.length ∧ InsN (n, p) t i D out ∧ RowB 62 2 v5 l5 out.length (out.flatMap cells2) ∧ tm = [(0, .pointer (some ⟨g, 0, none⟩)), (1, S n), (2, S p), (8, v5), (9, .bool D), (10, I i)] ∧ H = l5 ++ ((g, .cells #[.slice (some ⟨gN, 0, none⟩) t.length capN] 65 (0, 0)) :: ((gN, .cells csN.toArray 62 (0, 0)) :: R)))
    ⟨0, false, [], _, [], rfl, by omega, .inr ⟨rfl, (fun e he => by rw [List.take_zero] at he; cases he), rfl⟩, RowB.nil, rfl, rfl⟩ (by repeat (first | exact sub_nil | refine sub_cons rfl ?_)) hsub_a ?_
  clear hr hh hq hpa2
  rintro q tm H ⟨i, D, out, v5, l5, rfl, hi, hins, r5, rfl, rfl⟩
  obtain ⟨a5, c5, hv5⟩ := r5.len
  subst hv5
  have hlo := hins.len
  have hfo := flat2 out
  by_cases hlt : i < t.length
  · obtain ⟨⟨x, y⟩, he⟩ := getP hlt
    have cX : csN[0 + (i : Int).toNat * 2 + 0]? = some (S x) := hcell i _ (i : Int) 0 _ he rfl rfl
    have slX : sl (0 + (i : Int).toNat * 2) 2 csN = some [S x, S y] := sl_of (vs := cells2 (x, y)) (.inl (Nat.zero_lt_succ _)) fun j y hj => hcell i _ (i : Int) j y he rfl hj
    have hx100 := hn _ (List.mem_of_getElem? he)
    simp only at hx100
    have hb := fun w' => Lab.before_ok n x (by omega) (by omega) w'
    cases D
    · cases hbl : Op.bytesLess n x
      · rw [hbl] at hb
        repeat' (first | refine aw_seq ?_ | ((first | apply ao_val | apply aq_val); exact wants_a; (first | exact ov_nilcheck rfl | exact ov_a); (exact rfl)) | refine zy ?_ | refine zon fun _ => ?_ | refine zoa fun vr lr hr => ?_ | ((first | apply ao_call | apply aq_call); exact wants_a; (first | exact oc_func rfl | exact oc_clos rfl rfl | exact oc_bnd rfl rfl); (exact rfl); (first | exact fun w hw => hb w)) | refine zoS (fun _ => ?_) (fun _ => ?_) | refine zqS (fun _ => ?_) (fun _ => ?_) | refine zwS (fun _ => ?_) (fun _ => ?_))
        exact lq_normal' ⟨i + 1, _, _, _, _, rfl, by omega, hins.next he hbl, row2 (by assumption), rfl, rfl⟩ (by omega) (by repeat (first | exact sub_nil | refine sub_cons rfl ?_)) hsub_a
      · rw [hbl] at hb
        repeat' (first | refine aw_seq ?_ | ((first | apply ao_val | apply aq_val); exact wants_a; (first | exact ov_nilcheck rfl | exact ov_a); (exact rfl)) | refine zy ?_ | refine zon fun _ => ?_ | refine zoa fun vr lr hr => ?_ | ((first | apply ao_call | apply aq_call); exact wants_a; (first | exact oc_func rfl | exact oc_clos rfl rfl | exact oc_bnd rfl rfl); (exact rfl); (first | exact fun w hw => hb w)) | refine zoS (fun _ => ?_) (fun _ => ?_) | refine zqS (fun _ => ?_) (fun _ => ?_) | refine zwS (fun _ => ?_) (fun _ => ?_))
        exact lq_normal' ⟨i + 1, _, _, _, _, rfl, by omega, hins.here he hbl, row22 (by assumption), rfl, rfl⟩ (by omega) (by repeat (first | exact sub_nil | refine sub_cons rfl ?_)) hsub_a
    · cases hbl : Op.bytesLess n x
      · rw [hbl] at hb
        repeat' (first | refine aw_seq ?_ | ((first | apply ao_val | apply aq_val); exact wants_a; (first | exact ov_nilcheck rfl | exact ov_a); (exact rfl)) | refine zy ?_ | refine zon fun _ => ?_ | refine zoa fun vr lr hr => ?_ | ((first | apply ao_call | apply aq_call); exact wants_a; (first | exact oc_func rfl | exact oc_clos rfl rfl | exact oc_bnd rfl rfl); (exact rfl); (first | exact fun w hw => hb w)) | refine zoS (fun _ => ?_) (fun _ => ?_) | refine zqS (fun _ => ?_) (fun _ => ?_) | refine zwS (fun _ => ?_) (fun _ => ?_))
        exact lq_normal' ⟨i + 1, _, _, _, _, rfl, by omega, hins.done he, row2 (by assumption), rfl, rfl⟩ (by omega) (by repeat (first | exact sub_nil | refine sub_cons rfl ?_)) hsub_a
      · rw [hbl] at hb
        repeat' (first | refine aw_seq ?_ | ((first | apply ao_val | apply aq_val); exact wants_a; (first | exact ov_nilcheck rfl | exact ov_a); (exact rfl)) | refine zy ?_ | refine zon fun _ => ?_ | refine zoa fun vr lr hr => ?_ | ((first | apply ao_call | apply aq_call); exact wants_a; (first | exact oc_func rfl | exact oc_clos rfl rfl | exact oc_bnd rfl rfl); (exact rfl); (first | exact fun w hw => hb w)) | refine zoS (fun _ => ?_) (fun _ => ?_) | refine zqS (fun _ => ?_) (fun _ => ?_) | refine zwS (fun _ => ?_) (fun _ => ?_))
        exact lq_normal' ⟨i + 1, _, _, _, _, rfl, by omega, hins.done he, row2 (by assumption), rfl, rfl⟩ (by omega) (by repeat (first | exact sub_nil | refine sub_cons rfl ?_)) hsub_a
  · obtain rfl : i = t.length := by omega
    cases D
    · rw [hins.end_f]
      repeat' (first | refine aw_seq ?_ | ((first | apply ao_val | apply aq_val); exact wants_a; (first | exact ov_nilcheck rfl | exact ov_a); (exact rfl)) | refine zy ?_ | refine zon fun _ => ?_ | refine zoa fun vr lr hr => ?_ | refine zoS (fun _ => ?_) (fun _ => ?_) | refine zqS (fun _ => ?_) (fun _ => ?_) | refine zwS (fun _ => ?_) (fun _ => ?_))
      obtain ⟨a6, c6, hv6⟩ := hr.len
      subst hv6
      repeat' (first | refine aw_seq ?_ | ((first | apply ao_val | apply aq_val); exact wants_a; (first | exact ov_nilcheck rfl | exact ov_a); (exact rfl)) | refine zy ?_ | refine zon fun _ => ?_ | refine zoa fun vr lr hr => ?_ | refine zoS (fun _ => ?_) (fun _ => ?_) | refine zqS (fun _ => ?_) (fun _ => ?_) | refine zwS (fun _ => ?_) (fun _ => ?_))
      exact ⟨lr ++ ((g, .cells #[.slice a6 (out.length + 1) c6] 65 (0, 0)) :: R), _, hsub_a, perm_m, rfl, _, rfl, _, _, rfl, row2 hr⟩
    · rw [hins.end_t]
      repeat' (first | refine aw_seq ?_ | ((first | apply ao_val | apply aq_val); exact wants_a; (first | exact ov_nilcheck rfl | exact ov_a); (exact rfl)) | refine zy ?_ | refine zon fun _ => ?_ | refine zoa fun vr lr hr => ?_ | refine zoS (fun _ => ?_) (fun _ => ?_) | refine zqS (fun _ => ?_) (fun _ => ?_) | refine zwS (fun _ => ?_) (fun _ => ?_))
      exact ⟨l5 ++ ((g, .cells #[.slice a5 out.length c5] 65 (0, 0)) :: R), _, hsub_a, perm_m, rfl, _, rfl, _, _, rfl, r5⟩
end Trt
end Go.Proofs.Ytonhfddklkbnbaa
