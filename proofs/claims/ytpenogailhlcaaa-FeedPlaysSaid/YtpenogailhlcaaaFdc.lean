/- The document's answer for layer 10, in the own heap: Cover, Drop, Tell, Grow; conditions: at most 1,000 events. -/
import Derived.Test.YtpenogailhlcaaaFdb
namespace Go.Proofs.Ytpenogailhlcaaa
namespace Fdt
open Go Go.RowKit Sx
attribute [local irreducible] Go.Calls

/-- A call with one result that turns its memory. -/
theorem callsH1p {P : Program} {B m : Nat} {w0 : World} {f : FuncId} {fn : Func} {c : Code} {args : List Value} {n r : Nat} {H : Hp} {K : Value → Hp → Prop}
    (hf : P.funcs[f]? = some fn) (hb : fn.body = some c) (hn : fn.ntmps = n) (hl : Nat.ble args.length n = true) (hr : fn.results = #[.tmp r])
    (h : aw P ⟨B, w0, n⟩ c (ret1 r fun v H' => ∃ H2 H1 : Hp, H2.Sublist H' ∧ H2.Perm H1 ∧ K v H1) (tm0 args) H) : CallsH P ⟨B, w0, m⟩ f args H K := by
  refine callsH_of_aw hf hb hn hl h fun e a t' H' r1 q => ?_
  unfold ret1 at q
  cases e with
  | normal =>
    obtain ⟨v, h1, H2, H1, hs, hp, hk⟩ := q
    exact ⟨.inl rfl, _, H1, H2, fun w' _ => by rw [results_tmp hr, r1.2.2 r v h1], hs, hp, hk⟩
  | ret =>
    obtain ⟨v, h1, H2, H1, hs, hp, hk⟩ := q
    exact ⟨.inr rfl, _, H1, H2, fun w' _ => by rw [results_tmp hr, r1.2.2 r v h1], hs, hp, hk⟩
  | exit _ => exact q.elim
  | goto _ => exact q.elim
  | panic _ => exact q.elim
  | outgrown => exact q.elim
/-- A call without results that turns its memory. -/
theorem callsH0p {P : Program} {B m : Nat} {w0 : World} {f : FuncId} {fn : Func} {c : Code} {args : List Value} {n : Nat} {H : Hp} {K : Hp → Prop}
    (hf : P.funcs[f]? = some fn) (hb : fn.body = some c) (hn : fn.ntmps = n) (hl : Nat.ble args.length n = true) (hr : fn.results = #[])
    (h : aw P ⟨B, w0, n⟩ c (ret0 fun H' => ∃ H2 H1 : Hp, H2.Sublist H' ∧ H2.Perm H1 ∧ K H1) (tm0 args) H) : CallsH P ⟨B, w0, m⟩ f args H fun u H' => u = .tuple #[] ∧ K H' := by
  refine callsH_of_aw hf hb hn hl h fun e a t' H' r1 q => ?_
  unfold ret0 at q
  cases e with
  | normal =>
    obtain ⟨H2, H1, hs, hp, hk⟩ := q
    exact ⟨.inl rfl, _, H1, H2, fun w' _ => results_none hr _ _ _, hs, hp, rfl, hk⟩
  | ret =>
    obtain ⟨H2, H1, hs, hp, hk⟩ := q
    exact ⟨.inr rfl, _, H1, H2, fun w' _ => results_none hr _ _ _, hs, hp, rfl, hk⟩
  | exit _ => exact q.elim
  | goto _ => exact q.elim
  | panic _ => exact q.elim
  | outgrown => exact q.elim

/-- The document's feed in the own heap. -/
def RFd (g : Nat) (f : Fd) (l : Hp) : Prop :=
  ∃ vK vI lK lI, l = (g, .cells #[vK, vI, I f.cov] 31 (0, 0)) :: (lK ++ lI) ∧ RowB 35 3 vK lK f.es.length (f.es.flatMap cellsK) ∧ RowB 3 1 vI lI f.es.length (f.es.flatMap cellsI)
theorem RFd.new {g : Nat} : RFd g .new [(g, .cells #[.slice none 0 0, .slice none 0 0, I 0] 31 (0, 0))] := ⟨_, _, [], [], rfl, RowB.nil, RowB.nil⟩
theorem rAt_of {n : Nat} {w0 w : World} {H R1 R2 lK lI : Hp} {g : Nat} {f : Fd} {vK vI : Value} (h : RepH ⟨w0.heap.size, w0, n⟩ H w) (hb : Has H g (.cells #[vK, vI, I f.cov] 31 (0, 0)))
    (hK : RowB 35 3 vK lK f.es.length (f.es.flatMap cellsK)) (c1 : Cut H lK R1) (hI : RowB 3 1 vI lI f.es.length (f.es.flatMap cellsI)) (c2 : Cut H lI R2) : RAt w g f vK vI := by
  have hg := (h.has hb).2
  have hg2 : w.heap[g]? = some (.cells (List.toArray [vK, vI, I f.cov]) 31 (0, 0)) := hg
  exact ⟨(Array.getElem?_eq_some_iff.1 hg).1, by rw [cell_of hg2]; rfl, by rw [cell_of hg2]; rfl, by rw [cell_of hg2]; rfl, h.oldr hK c1, h.oldr hI c2⟩
theorem RFd.rAt {n : Nat} {w0 w : World} {H R l : Hp} {g : Nat} {f : Fd} (h : RFd g f l) (hw : RepH ⟨w0.heap.size, w0, n⟩ H w) (hc : Cut H l R) : ∃ vK vI, RAt w g f vK vI := by
  obtain ⟨vK, vI, lK, lI, rfl, h1, h2⟩ := h
  have hb : Has H g (.cells #[vK, vI, I f.cov] 31 (0, 0)) := by
    unfold Has
    exact (List.Perm.mem_iff hc).2 (List.mem_append_left _ List.mem_cons_self)
  have hc2 : Cut H (lK ++ lI) ((g, .cells #[vK, vI, I f.cov] 31 (0, 0)) :: R) := by
    unfold Cut at *
    refine hc.trans ?_
    exact List.perm_middle.symm
  exact ⟨vK, vI, rAt_of hw hb h1 hc2.fst h2 hc2.snd⟩
theorem flatI (es : List (Kt × Int)) : es.flatMap cellsI = es.map fun e => I e.2 := by
  induction es with
  | nil => rfl
  | cons e es ih => rw [List.flatMap_cons, ih]; rfl
theorem flatI_flat (es : List (Kt × Int)) : (es.flatMap cellsI).all flat = true := by rw [flatI, List.all_map, List.all_eq_true]; intro x _; rfl
theorem flatK_flat (es : List (Kt × Int)) : (es.flatMap cellsK).all flat = true := by
  rw [List.all_eq_true]
  intro x hx
  obtain ⟨e, -, hxe⟩ := List.mem_flatMap.1 hx
  unfold cellsK at hxe
  simp only [List.mem_cons, List.not_mem_nil, or_false] at hxe
  rcases hxe with h | h | h <;> subst h <;> rfl
theorem setF_keys (f : Fd) (i : Nat) (v : Int) : (setF f i v).es.flatMap cellsK = f.es.flatMap cellsK := by
  unfold setF
  simp only
  split
  · rename_i e he
    rw [List.flatMap_def, List.flatMap_def, List.map_set]
    congr 1
    apply List.ext_getElem?
    intro j
    by_cases hj : i = j
    · subst hj
      rw [List.getElem?_set_self (by rw [List.length_map]; exact (List.getElem?_eq_some_iff.1 he).1), List.getElem?_map, he]
      rfl
    · rw [List.getElem?_set_ne hj]
  · rfl
theorem setF_vals {f : Fd} {i : Nat} {v : Int} {e : Kt × Int} (he : f.es[i]? = some e) : (setF f i v).es.flatMap cellsI = (f.es.flatMap cellsI).set i (I v) := by
  rw [flatI, flatI]
  unfold setF
  rw [he]
  simp only
  rw [List.map_set]
theorem rowI_set {e : TypeId} {f : Fd} {g cap i : Nat} {cs : List Value} {x : Kt × Int} {v : Int} (hcap : f.es.length ≤ cap) (hlen : cs.length = cap * 1) (ht : cs.take (f.es.length * 1) = f.es.flatMap cellsI) (hx : f.es[i]? = some x) :
    RowB e 1 (.slice (some ⟨g, 0, none⟩) f.es.length cap) [(g, .cells (cs.set (0 + (i : Int).toNat * 1) (I v)).toArray e (0, 0))] (setF f i v).es.length ((setF f i v).es.flatMap cellsI) := by
  rw [setF_len, setF_vals hx, Int.toNat_natCast, Nat.zero_add, Nat.mul_one]
  refine ⟨by rw [List.length_set, flatI, List.length_map, Nat.mul_one], .inr ⟨g, cap, _, rfl, rfl, hcap, by rw [List.size_toArray, List.length_set]; exact hlen, ?_⟩⟩
  rw [List.take_set, ht]
theorem openB {e : TypeId} {sz : Nat} {v : Value} {l : Hp} {α : Type} {f : α → List Value} {es : List α} (hf : ∀ a, (f a).length = sz) (h : RowB e sz v l es.length (es.flatMap f)) (hn : 0 < es.length) :
    ∃ g cap cs, v = .slice (some ⟨g, 0, none⟩) es.length cap ∧ l = [(g, .cells (List.toArray cs) e (0, 0))] ∧ es.length ≤ cap ∧ cs.length = cap * sz ∧ cs.take (es.length * sz) = es.flatMap f ∧
      ∀ (i : Nat) (x : α) (z : Int) (r : Nat) u, es[i]? = some x → z = (i : Int) → (f x)[r]? = some u → cs[0 + z.toNat * sz + r]? = some u := by
  obtain ⟨g, cap, cs, h1, h2, h3, h4, h5⟩ := h.open hn
  refine ⟨g, cap, cs, h1, h2, h3, h4, h5, fun i x z r u hi hz hu => ?_⟩
  rw [hz, Int.toNat_natCast, Nat.zero_add]
  exact row_cell h5 (flat_at hf es i r x u hi hu)
/-- What a call on the document's feed leaves. -/
def RDid (g : Nat) (x : Int × Fd) (R : Hp) (u : Value) (H' : Hp) : Prop := u = I x.1 ∧ ∃ l', H' = l' ++ R ∧ RFd g x.2 l'

set_option maxHeartbeats 16000000 in
theorem rcover_ok {m : Nat} {w0 : World} {g : Nat} {f : Fd} {l : Hp} (h : RFd g f l) (v : Int) (R : Hp) :
    CallsH Try.prog ⟨w0.heap.size, w0, m⟩ 25 [.pointer (some ⟨g, 0, none⟩), I v] (l ++ R) (RDid g (coverF f v) R) := by
  obtain ⟨vK, vI, lK, lI, rfl, hK, hI⟩ := h
  obtain ⟨aK, cK, rfl⟩ := hK.len
  rw [List.cons_append, List.append_assoc]
  refine callsH1p (args := [.pointer (some ⟨g, 0, none⟩), I v]) Try.func25 rfl rfl rfl rfl ?_
  have same : ∀ er : Int, RDid g (er, f) R (I er) ((g, .cells #[.slice aK f.es.length cK, vI, I f.cov] 31 (0, 0)) :: (lK ++ (lI ++ R))) := fun er => ⟨rfl, _, by rw [← List.append_assoc, ← List.cons_append], _, _, lK, lI, rfl, hK, hI⟩
  unfold coverF
  by_cases h0 : v < 0
  · rw [if_pos (.inl h0)]
    repeat' (first | refine aw_seq ?_ | ((first | apply ao_val | apply aq_val); exact wants_a; (first | exact ov_nilcheck rfl | exact ov_a); (exact rfl)) | refine zy ?_ | refine zon fun _ => ?_ | refine zoa fun vr lr hr => ?_ | refine zoS (fun _ => ?_) (fun _ => ?_) | refine zqS (fun _ => ?_) (fun _ => ?_) | refine zwS (fun _ => ?_) (fun _ => ?_))
    exact ⟨_, _, hsub_a, List.Perm.refl _, same 1⟩
  by_cases h1 : (f.es.length : Int) < v
  · rw [if_pos (.inr h1)]
    repeat' (first | refine aw_seq ?_ | ((first | apply ao_val | apply aq_val); exact wants_a; (first | exact ov_nilcheck rfl | exact ov_a); (exact rfl)) | refine zy ?_ | refine zon fun _ => ?_ | refine zoa fun vr lr hr => ?_ | refine zoS (fun _ => ?_) (fun _ => ?_) | refine zqS (fun _ => ?_) (fun _ => ?_) | refine zwS (fun _ => ?_) (fun _ => ?_))
    exact ⟨_, _, hsub_a, List.Perm.refl _, same 1⟩
  rw [if_neg (by omega)]
  by_cases h2 : v < f.cov
  · rw [if_pos h2]
    repeat' (first | refine aw_seq ?_ | ((first | apply ao_val | apply aq_val); exact wants_a; (first | exact ov_nilcheck rfl | exact ov_a); (exact rfl)) | refine zy ?_ | refine zon fun _ => ?_ | refine zoa fun vr lr hr => ?_ | refine zoS (fun _ => ?_) (fun _ => ?_) | refine zqS (fun _ => ?_) (fun _ => ?_) | refine zwS (fun _ => ?_) (fun _ => ?_))
    exact ⟨_, _, hsub_a, List.Perm.refl _, same 6⟩
  · rw [if_neg h2]
    repeat' (first | refine aw_seq ?_ | ((first | apply ao_val | apply aq_val); exact wants_a; (first | exact ov_nilcheck rfl | exact ov_a); (exact rfl)) | refine zy ?_ | refine zon fun _ => ?_ | refine zoa fun vr lr hr => ?_ | refine zoS (fun _ => ?_) (fun _ => ?_) | refine zqS (fun _ => ?_) (fun _ => ?_) | refine zwS (fun _ => ?_) (fun _ => ?_))
    exact ⟨_, _, hsub_a, List.Perm.refl _, rfl, (g, .cells #[.slice aK f.es.length cK, vI, I v] 31 (0, 0)) :: (lK ++ lI), by rw [List.cons_append, List.append_assoc], _, _, lK, lI, rfl, hK, hI⟩

set_option maxHeartbeats 16000000 in
theorem rdrop_ok {m : Nat} {w0 : World} {g : Nat} {f : Fd} {l : Hp} (h : RFd g f l) (hl : f.es.length ≤ 1000) (z : Int) (R : Hp) :
    CallsH Try.prog ⟨w0.heap.size, w0, m⟩ 24 [.pointer (some ⟨g, 0, none⟩), I z] (l ++ R) (RDid g (dropF f z) R) := by
  obtain ⟨vK, vI, lK, lI, rfl, hK, hI⟩ := h
  obtain ⟨aK, cK, rfl⟩ := hK.len
  rw [List.cons_append, List.append_assoc]
  refine callsH1p (args := [.pointer (some ⟨g, 0, none⟩), I z]) Try.func24 rfl rfl rfl rfl ?_
  have same : ∀ er : Int, RDid g (er, f) R (I er) ((g, .cells #[.slice aK f.es.length cK, vI, I f.cov] 31 (0, 0)) :: (lK ++ (lI ++ R))) := fun er => ⟨rfl, _, by rw [← List.append_assoc, ← List.cons_append], _, _, lK, lI, rfl, hK, hI⟩
  rcases drop_cases f z with ⟨he, h0⟩ | hr
  · rw [he]
    unfold inF at h0
    by_cases h1 : z < 0
    · repeat' (first | refine aw_seq ?_ | ((first | apply ao_val | apply aq_val); exact wants_a; (first | exact ov_nilcheck rfl | exact ov_a); (exact rfl)) | refine zy ?_ | refine zon fun _ => ?_ | refine zoa fun vr lr hr => ?_ | refine zoS (fun _ => ?_) (fun _ => ?_) | refine zqS (fun _ => ?_) (fun _ => ?_) | refine zwS (fun _ => ?_) (fun _ => ?_))
      exact ⟨_, _, hsub_a, List.Perm.refl _, same 1⟩
    · have h2 : (f.es.length : Int) ≤ z := by omega
      repeat' (first | refine aw_seq ?_ | ((first | apply ao_val | apply aq_val); exact wants_a; (first | exact ov_nilcheck rfl | exact ov_a); (exact rfl)) | refine zy ?_ | refine zon fun _ => ?_ | refine zoa fun vr lr hr => ?_ | refine zoS (fun _ => ?_) (fun _ => ?_) | refine zqS (fun _ => ?_) (fun _ => ?_) | refine zwS (fun _ => ?_) (fun _ => ?_))
      exact ⟨_, _, hsub_a, List.Perm.refl _, same 1⟩
  · have hin : inF f z := by rcases hr with h | h <;> exact h.1
    unfold inF at hin
    obtain ⟨i, rfl⟩ : ∃ i : Nat, z = i := ⟨z.toNat, by omega⟩
    rw [Int.toNat_natCast] at hr
    have hi : i < f.es.length := by omega
    obtain ⟨⟨k, is⟩, he⟩ := getP hi
    obtain ⟨gI, capI, csI, rfl, rfl, hcap, hlen, htk, hcell⟩ := openB cellsI_len hI (by omega)
    have cI : csI[0 + (i : Int).toNat * 1]? = some (I is) := hcell i _ (i : Int) 0 _ he rfl rfl
    have hst := fun w' (h : RAt w' g f (.slice aK f.es.length cK) (.slice (some ⟨gI, 0, none⟩) f.es.length capI)) => rsettled_ok h hl i hi
    have hob := opB_at he
    have hset := fun v => rowI_set (e := 3) (g := gI) (v := v) hcap hlen htk he
    generalize stB f i = sB at hst hob
    rcases hr with ⟨-, ho, hd⟩ | ⟨-, ho, hd⟩
    · rw [hd]
      by_cases h0 : is = 0
      · subst h0
        rw [ho, decide_eq_true rfl, Bool.true_and] at hob
        have hsB : sB = true := by cases sB <;> first | rfl | cases hob
        subst hsB
        repeat' (first | refine aw_seq ?_ | ((first | apply ao_val | apply aq_val); exact wants_a; (first | exact ov_nilcheck rfl | exact ov_a); (exact rfl)) | refine zy ?_ | refine zon fun _ => ?_ | refine zoa fun vr lr hr => ?_ | ((first | apply ao_call | apply aq_call); exact wants_a; (first | exact oc_func rfl | exact oc_clos rfl rfl | exact oc_bnd rfl rfl); (exact rfl); (first | exact fun w hw => hst w (rAt_of hw has_a hK cut_a hI cut_a))) | refine zoS (fun _ => ?_) (fun _ => ?_) | refine zqS (fun _ => ?_) (fun _ => ?_) | refine zwS (fun _ => ?_) (fun _ => ?_))
        exact ⟨_, _, hsub_a, List.Perm.refl _, same 6⟩
      · have e0 : (is == 0) = false := beq_eq_false_iff_ne.2 h0
        repeat' (first | refine aw_seq ?_ | ((first | apply ao_val | apply aq_val); exact wants_a; (first | exact ov_nilcheck rfl | exact ov_a); (exact rfl)) | refine zy ?_ | refine zon fun _ => ?_ | refine zoa fun vr lr hr => ?_ | ((first | apply ao_call | apply aq_call); exact wants_a; (first | exact oc_func rfl | exact oc_clos rfl rfl | exact oc_bnd rfl rfl); (exact rfl); (first | exact fun w hw => hst w (rAt_of hw has_a hK cut_a hI cut_a))) | refine zoS (fun _ => ?_) (fun _ => ?_) | refine zqS (fun _ => ?_) (fun _ => ?_) | refine zwS (fun _ => ?_) (fun _ => ?_))
        exact ⟨_, _, hsub_a, List.Perm.refl _, same 6⟩
    · rw [hd]
      rw [ho] at hob
      have h0 : is = 0 := by
        by_cases h0 : is = 0
        · exact h0
        · rw [decide_eq_false h0, Bool.false_and] at hob; cases hob
      subst h0
      have hsB : sB = false := by cases sB <;> first | rfl | cases hob
      subst hsB
      have hlt : 0 + (i : Int).toNat * 1 < csI.length := (List.getElem?_eq_some_iff.1 cI).1
      repeat' (first | refine aw_seq ?_ | ((first | apply ao_val | apply aq_val); exact wants_a; (first | exact ov_nilcheck rfl | exact ov_a); (exact rfl)) | refine zy ?_ | refine zon fun _ => ?_ | refine zoa fun vr lr hr => ?_ | ((first | apply ao_call | apply aq_call); exact wants_a; (first | exact oc_func rfl | exact oc_clos rfl rfl | exact oc_bnd rfl rfl); (exact rfl); (first | exact fun w hw => hst w (rAt_of hw has_a hK cut_a hI cut_a))) | refine zoS (fun _ => ?_) (fun _ => ?_) | refine zqS (fun _ => ?_) (fun _ => ?_) | refine zwS (fun _ => ?_) (fun _ => ?_))
      exact ⟨_, _, hsub_a, List.Perm.refl _, rfl, (g, .cells #[.slice aK f.es.length cK, .slice (some ⟨gI, 0, none⟩) f.es.length capI, I f.cov] 31 (0, 0)) :: (lK ++ [(gI, .cells (csI.set (0 + (i : Int).toNat * 1) (I 2)).toArray 3 (0, 0))]), by rw [List.cons_append, List.append_assoc]; rfl, _, _, lK, _, rfl, by rw [setF_len, setF_keys]; exact hK, hset 2⟩
end Fdt
end Go.Proofs.Ytpenogailhlcaaa
