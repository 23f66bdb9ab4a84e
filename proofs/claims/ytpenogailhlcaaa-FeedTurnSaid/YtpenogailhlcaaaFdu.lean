/- What is told in its turn, as facts; the walk of FeedTurn of layer 10; conditions: none. -/
import Derived.Test.YtpenogailhlcaaaFds
namespace Go.Proofs.Ytpenogailhlcaaa
namespace Fdt
open Go Go.RowKit Sx
attribute [local irreducible] Go.Calls

theorem op_set {f : Fd} {j m : Nat} {v : Int} (h : m ≠ j) : opB (setF f j v) m = opB f m := by
  unfold opB stB
  rw [setF_get, if_neg h]
  rfl
theorem op_is {f : Fd} {m : Nat} {x : Kt × Int} (hx : f.es[m]? = some x) (h : opB f m = true) : x.2 = 0 := by
  obtain ⟨k, is⟩ := x
  rw [opB_at hx, Bool.and_eq_true, decide_eq_true_eq] at h
  exact h.1
theorem open_mem {f : Fd} {m : Nat} (h : m ∈ openF f) : m < f.es.length ∧ opB f m = true := by
  unfold openF openL at h
  rw [List.mem_filter, List.mem_range] at h
  exact h
/-- Told, or dropped, or not. -/
theorem turn_facts (f : Fd) {kind : Int} (k : Kt) (n : Int) {r : Int} (hr : kind % 7 = r) :
    (r < 2 → doF f kind k n = (0, growF f k)) ∧ (r = 6 → (doF f kind k n).2.es = f.es) ∧
    (2 ≤ r → r < 6 → ((doF f kind k n).1 ≠ 0 ∧ (doF f kind k n).2 = f) ∨ ((doF f kind k n).1 = 0 ∧ ∃ (j : Nat) (e : Kt × Int), n = (j : Int) ∧ f.es[j]? = some e ∧ e.2 ≠ 2 ∧ (doF f kind k n).2 = setF f j (if r = 5 then 2 else 1) ∧
      (r < 5 → ∀ (m : Nat) (x : Kt × Int), m < j → f.es[m]? = some x → opB f m = true → x.1 ≠ e.1))) := by
  refine ⟨fun h => do_01 (by omega), fun h => ?_, fun h2 h6 => ?_⟩
  · rw [do_6 (by omega)]
    rcases cover_cases f n with e | ⟨-, -, -, e⟩ | ⟨-, -, -, e⟩ <;> rw [e]
  · by_cases h5 : r = 5
    · rw [do_5 (by omega)]
      rcases drop_cases f n with ⟨e, -⟩ | ⟨-, -, e⟩ | ⟨hin, ho, e⟩ <;> rw [e]
      · exact .inl ⟨by show (1 : Int) ≠ 0; decide, rfl⟩
      · exact .inl ⟨by show (6 : Int) ≠ 0; decide, rfl⟩
      · unfold inF at hin
        obtain ⟨x, hx⟩ := getP (show n.toNat < f.es.length by omega)
        have h0 := op_is hx ho
        exact .inr ⟨rfl, n.toNat, x, by omega, hx, by omega, by rw [if_pos h5], fun h => by omega⟩
    · rw [do_234 (by omega)]
      rcases tell_cases f n with ⟨e, -⟩ | ⟨x, hin, hx, ⟨-, e⟩ | ⟨-, -, e⟩ | ⟨h2, hb, e⟩⟩ <;> rw [e]
      · exact .inl ⟨by show (1 : Int) ≠ 0; decide, rfl⟩
      · exact .inl ⟨by show (6 : Int) ≠ 0; decide, rfl⟩
      · exact .inl ⟨by show (7 : Int) ≠ 0; decide, rfl⟩
      · unfold inF at hin
        refine .inr ⟨rfl, n.toNat, x, by omega, hx, h2, by rw [if_neg h5], fun _ m y hm hy ho hk => ?_⟩
        obtain ⟨y1, y2⟩ := y
        rw [blk_t hy hm ho hk] at hb
        cases hb
/-- What is told in its turn: no one of its key, ahead of it, is open. -/
def TurnF (f : Fd) (n : Int) : Prop := ∃ (j : Nat) (e : Kt × Int), n = (j : Int) ∧ f.es[j]? = some e ∧ ∀ (m : Nat) (x : Kt × Int), m < j → f.es[m]? = some x → opB f m = true → x.1 ≠ e.1
theorem turn_set {f : Fd} {j : Nat} {e : Kt × Int} {v : Int} (he : f.es[j]? = some e) (h : ∀ (m : Nat) (x : Kt × Int), m < j → f.es[m]? = some x → opB f m = true → x.1 ≠ e.1) : TurnF (setF f j v) j := by
  refine ⟨j, (e.1, v), rfl, by rw [setF_get, if_pos rfl, he]; rfl, fun m x hm hx ho => ?_⟩
  rw [setF_get, if_neg (by omega)] at hx
  rw [op_set (by omega)] at ho
  exact h m x hm hx ho
theorem perm_sw {A B X : Hp} : (A ++ (B ++ X)).Perm (B ++ (A ++ X)) := by classical exact List.perm_iff_count.2 fun y => by simp only [List.count_append]; omega
theorem perm_rot {A B X : Hp} : (A ++ (B ++ (X ++ []))).Perm (B ++ (X ++ (A ++ []))) := by classical exact List.perm_iff_count.2 fun y => by simp only [List.count_append]; omega
theorem growK2 {v : Value} {l : Hp} {f f2 : Fd} {k : Kt} {e : TypeId} (e2 : f2 = growF f k) (h : RowB e 3 v l (f.es.length + 1) (f.es.flatMap cellsK ++ [S k.1, S k.2.1, S k.2.2])) : RowB e 3 v l f2.es.length (f2.es.flatMap cellsK) := by
  subst e2
  unfold growF
  rw [List.length_append, List.flatMap_append]
  exact h
theorem growI2 {v : Value} {l : Hp} {f f2 : Fd} {k : Kt} {e : TypeId} (e2 : f2 = growF f k) (h : RowB e 1 v l (f.es.length + 1) (f.es.flatMap cellsI ++ [I 0])) : RowB e 1 v l f2.es.length (f2.es.flatMap cellsI) := by
  subst e2
  unfold growF
  rw [List.length_append, List.flatMap_append]
  exact h
set_option maxHeartbeats 64000000 in
theorem turns_ok (v : Value) (xs : List Ac) (hn : ∀ a ∈ xs, 0 ≤ a.kind) (w : World) (hv : OldRow w 5 v xs.length (xs.flatMap cellsA)) : Calls Try.prog 5 #[v] w fun e w' => e = .returned (.bool true) ∧ Below w.heap.size w w' := by
  have hfit := fun w' (hb : Below w.heap.size w w') => fits10_ok v xs w' (OldRow.below hv hb)
  obtain ⟨a, cp, rfl, hat⟩ := OldRow.cells cellsA_len hv
  refine calls1 (args := [.slice a xs.length cp]) Try.func5 rfl rfl rfl rfl ?_
  cases hq : fitA xs
  · rw [hq] at hfit
    repeat' (first | refine aw_seq ?_ | refine zz ?_ | refine zon fun _ => ?_ | refine zoa fun vr lr hr => ?_ | ((first | apply ao_call | apply aq_call); exact wants_a; (first | exact oc_func rfl | exact oc_clos rfl rfl | exact oc_bnd rfl rfl); (exact rfl); (first | exact fun w hw => hfit w hw.below | exact fun w hw => alive_ok w)) | refine zoS (fun _ => ?_) (fun _ => ?_) | refine zqS (fun _ => ?_) (fun _ => ?_) | refine zwS (fun _ => ?_) (fun _ => ?_))
    exact fun w' hw => ⟨rfl, hw.below⟩
  rw [hq] at hfit
  obtain ⟨h100, hks⟩ := fitA_wf hq
  repeat' (first | refine aw_seq ?_ | refine zz ?_ | refine zon fun _ => ?_ | refine zoa fun vr lr hr => ?_ | ((first | apply ao_call | apply aq_call); exact wants_a; (first | exact oc_func rfl | exact oc_clos rfl rfl | exact oc_bnd rfl rfl); (exact rfl); (first | exact fun w hw => hfit w hw.below)) | ((apply ao_callD; exact wants_a; (exact oc_func rfl); (exact rfl); (intro w hw; exact lnew_ok w); intro vr lr hr; obtain ⟨g, hvr, hL⟩ := hr; subst hvr)) | refine zoS (fun _ => ?_) (fun _ => ?_) | refine zqS (fun _ => ?_) (fun _ => ?_) | refine zwS (fun _ => ?_) (fun _ => ?_))
  refine aw_for (t0 := [(0, .slice a xs.length cp), (4, .pointer (some ⟨g, 0, none⟩)), (5, .slice none 0 0), (6, .slice none 0 0), (7, I (0 : Nat))]) (fun q t H => ∃ (i : Nat) (f : Fd) (l : Hp) (vK vI : Value) (lK lI : Hp), q = xs.length - i ∧ i ≤ xs.length ∧ LFd f g l ∧ FitF f ∧ f.es.length ≤ i ∧
      RowB 35 3 vK lK f.es.length (f.es.flatMap cellsK) ∧ RowB 3 1 vI lI f.es.length (f.es.flatMap cellsI) ∧
      t = [(0, .slice a xs.length cp), (4, .pointer (some ⟨g, 0, none⟩)), (5, vK), (6, vI), (7, I i)] ∧ H.Perm (lK ++ (lI ++ (l ++ []))))
    ⟨0, .new, lr, _, _, [], [], rfl, by omega, hL, FitF.new, Nat.le_refl _, RowB.nil, RowB.nil, rfl, List.Perm.refl _⟩ (by repeat (first | exact sub_nil | refine sub_cons rfl ?_)) ?_
  clear hL
  rintro q t H ⟨i, f, l, vK, vI, lK, lI, rfl, hi, hL, hF, hln, hK, hI, rfl, hp⟩
  refine aw_permH hp ?_
  clear hp
  obtain ⟨aK, cK, rfl⟩ := hK.len
  obtain ⟨aI, cI, rfl⟩ := hI.len
  by_cases hlt : i < xs.length
  · obtain ⟨⟨kind, k, n⟩, he⟩ := getP hlt
    have m1 := List.mem_of_getElem? he
    have hk0 := hn _ m1
    have hkk := hks _ m1
    obtain ⟨ga, o1, rfl, hg, hc⟩ := hat i _ (i : Int) he rfl
    have cA : ∀ (j : Nat) z, [.int .u8 kind, S k.1, S k.2.1, S k.2.2, I n][j]? = some z → w.cell? ⟨ga, o1 + (i : Int).toNat * 5 + j, none⟩ = some z := hc
    have c0 : w.cell? ⟨ga, o1 + (i : Int).toNat * 5 + 0, none⟩ = some (.int .u8 kind) := hc 0 _ rfl
    have c4 : w.cell? ⟨ga, o1 + (i : Int).toNat * 5 + 4, none⟩ = some (I n) := hc 4 _ rfl
    have cKy : ∀ (j : Nat) z, [S k.1, S k.2.1, S k.2.2][j]? = some z → w.cell? ⟨ga, o1 + (i : Int).toNat * 5 + 1 + j, none⟩ = some z := fun j z hj => by
      rw [show o1 + (i : Int).toNat * 5 + 1 + j = o1 + (i : Int).toNat * 5 + (j + 1) by omega]
      exact hc (j + 1) z (by
        rcases j with _ | _ | _ | j
        · exact hj
        · exact hj
        · exact hj
        · simp at hj)
    have hdo := fun m R => ldo_ok (m := m) (w0 := w) hL hF ⟨kind, k, n⟩ hk0 hkk R
    have hF2 := fit_doF hF (by omega) kind hkk n
    have hl2 := (do_wf hF.wf kind k n).2
    obtain ⟨r, hr7⟩ : ∃ r, kind % 7 = r := ⟨_, rfl⟩
    have hr0 : 0 ≤ r ∧ r < 7 := by omega
    obtain ⟨t1, t2, t3⟩ := turn_facts f k n hr7
    unfold LDid at hdo
    simp only at hk0 hdo
    generalize doF f kind k n = X at hdo hF2 hl2 t1 t2 t3
    obtain ⟨er, f2⟩ := X
    simp only at hdo hF2 hl2 t1 t2 t3
    repeat' (first | refine aw_cutI_at (id := 16) (fun t H => ∃ (f3 : Fd) (vK vI : Value) (lK lI l2 : Hp), LFd f2 g l2 ∧ (r < 2 → f3 = f2) ∧ (2 ≤ r → f3 = f) ∧ RowB 35 3 vK lK f3.es.length (f3.es.flatMap cellsK) ∧ RowB 3 1 vI lI f3.es.length (f3.es.flatMap cellsI) ∧ t = [(0, .slice (some ⟨ga, o1, none⟩) xs.length cp), (4, .pointer (some ⟨g, 0, none⟩)), (5, vK), (6, vI), (7, I i), (8, I n), (9, .int .u8 r), (10, I er)] ∧ H.Perm (lK ++ (lI ++ (l2 ++ [])))) ?_ ?_ | refine aw_cutI_at2 (id := 16) (fun t H => ∃ (f3 : Fd) (vK vI : Value) (lK lI l2 : Hp), LFd f2 g l2 ∧ (r < 2 → f3 = f2) ∧ (2 ≤ r → f3 = f) ∧ RowB 35 3 vK lK f3.es.length (f3.es.flatMap cellsK) ∧ RowB 3 1 vI lI f3.es.length (f3.es.flatMap cellsI) ∧ t = [(0, .slice (some ⟨ga, o1, none⟩) xs.length cp), (4, .pointer (some ⟨g, 0, none⟩)), (5, vK), (6, vI), (7, I i), (8, I n), (9, .int .u8 r), (10, I er)] ∧ H.Perm (lK ++ (lI ++ (l2 ++ [])))) ?_ ?_ | refine aw_seq ?_ | ((first | apply ao_val | apply aq_val); exact wants_a; (first | exact ov_load_oa rfl hg cA rfl | exact ov_load_oa rfl hg cKy rfl | exact ov_rem7 hk0 hr7 rfl rfl | exact ov_a); (exact rfl)) | refine zy ?_ | refine zon fun _ => ?_ | refine zoa fun vr lr hr => ?_ | ((apply ao_callH (l := l); exact wants_a; (exact oc_func rfl); (exact rfl); (exact Cut.skipA lK (Cut.skipA lI Cut.here)); (exact hdo _ _); rintro _ _ ⟨rfl, l2, rfl, hL2⟩)))
    · by_cases h2 : r < 2
      · have e2 : f2 = growF f k := congrArg Prod.snd (t1 h2)
        repeat' (first | refine aw_seq ?_ | ((first | apply ao_val | apply aq_val); exact wants_a; (first | exact ov_load_oa rfl hg cKy rfl | exact ov_a); (exact rfl)) | refine zy ?_ | refine zon fun _ => ?_ | refine zoa fun vr lr hr => ?_ | refine zoS (fun _ => ?_) (fun _ => ?_) | refine zqS (fun _ => ?_) (fun _ => ?_) | refine zwS (fun _ => ?_) (fun _ => ?_))
        exact ci_normal ⟨f2, _, _, _, _, l2, hL2, fun _ => rfl, fun h => absurd h2 (by omega), growK2 e2 (by assumption), growI2 e2 (by assumption), rfl, perm_sw⟩ (by repeat (first | exact sub_nil | refine sub_cons rfl ?_)) hsub_a
      · repeat' (first | refine aw_seq ?_ | refine zz ?_ | refine zon fun _ => ?_ | refine zoa fun vr lr hr => ?_ | refine zoS (fun _ => ?_) (fun _ => ?_) | refine zqS (fun _ => ?_) (fun _ => ?_) | refine zwS (fun _ => ?_) (fun _ => ?_))
        exact ci_normal ⟨f, _, _, lK, lI, l2, hL2, fun h => absurd h h2, fun _ => rfl, hK, hI, rfl, perm_rot⟩ (by repeat (first | exact sub_nil | refine sub_cons rfl ?_)) hsub_a
    clear hK hI hL
    rintro t H ⟨f3, vK, vI, lK, lI, l2, hL2, e1, e2, hK, hI, rfl, hp⟩
    refine aw_permH hp ?_
    clear hp
    obtain ⟨aK, cK, rfl⟩ := hK.len
    obtain ⟨aI, cI, rfl⟩ := hI.len
    repeat' (first | refine aw_cutI_at (id := 22) (fun t H => ∃ (vK vI : Value) (lK lI : Hp), RowB 35 3 vK lK f2.es.length (f2.es.flatMap cellsK) ∧ RowB 3 1 vI lI f2.es.length (f2.es.flatMap cellsI) ∧ (2 ≤ r → r < 5 → er = 0 → TurnF f2 n) ∧ t = [(0, .slice (some ⟨ga, o1, none⟩) xs.length cp), (4, .pointer (some ⟨g, 0, none⟩)), (5, vK), (6, vI), (7, I i), (8, I n), (9, .int .u8 r), (10, I er)] ∧ H.Perm (lK ++ (lI ++ (l2 ++ [])))) ?_ ?_ | refine aw_cutI_at2 (id := 22) (fun t H => ∃ (vK vI : Value) (lK lI : Hp), RowB 35 3 vK lK f2.es.length (f2.es.flatMap cellsK) ∧ RowB 3 1 vI lI f2.es.length (f2.es.flatMap cellsI) ∧ (2 ≤ r → r < 5 → er = 0 → TurnF f2 n) ∧ t = [(0, .slice (some ⟨ga, o1, none⟩) xs.length cp), (4, .pointer (some ⟨g, 0, none⟩)), (5, vK), (6, vI), (7, I i), (8, I n), (9, .int .u8 r), (10, I er)] ∧ H.Perm (lK ++ (lI ++ (l2 ++ [])))) ?_ ?_ | refine aw_seq ?_ | refine zz ?_ | refine zon fun _ => ?_ | refine zoa fun vr lr hr => ?_)
    · by_cases h2 : r < 2
      · obtain rfl := e1 h2
        repeat' (first | refine aw_seq ?_ | refine zz ?_ | refine zon fun _ => ?_ | refine zoa fun vr lr hr => ?_ | refine zoS (fun _ => ?_) (fun _ => ?_) | refine zqS (fun _ => ?_) (fun _ => ?_) | refine zwS (fun _ => ?_) (fun _ => ?_))
        exact ci_normal ⟨_, _, lK, lI, hK, hI, fun h => by omega, rfl, List.Perm.refl _⟩ (by repeat (first | exact sub_nil | refine sub_cons rfl ?_)) hsub_a
      obtain rfl := e2 (by omega)
      by_cases h6 : r = 6
      · have e6 := t2 h6
        repeat' (first | refine aw_seq ?_ | refine zz ?_ | refine zon fun _ => ?_ | refine zoa fun vr lr hr => ?_ | refine zoS (fun _ => ?_) (fun _ => ?_) | refine zqS (fun _ => ?_) (fun _ => ?_) | refine zwS (fun _ => ?_) (fun _ => ?_))
        exact ci_normal ⟨_, _, lK, lI, by rw [e6]; exact hK, by rw [e6]; exact hI, fun _ h => by omega, rfl, List.Perm.refl _⟩ (by repeat (first | exact sub_nil | refine sub_cons rfl ?_)) hsub_a
      have hr6 : r < 6 := by omega
      have hr2 : 2 ≤ r := by omega
      rcases t3 (by omega) (by omega) with ⟨h0, rfl⟩ | ⟨rfl, j, x, rfl, hx, hx2, rfl, htn⟩
      · have e0 : (er == 0) = false := beq_eq_false_iff_ne.2 h0
        repeat' (first | refine aw_seq ?_ | refine zz ?_ | refine zon fun _ => ?_ | refine zoa fun vr lr hr => ?_ | refine zoS (fun _ => ?_) (fun _ => ?_) | refine zqS (fun _ => ?_) (fun _ => ?_) | refine zwS (fun _ => ?_) (fun _ => ?_))
        exact ci_normal ⟨_, _, lK, lI, hK, hI, fun _ _ h => absurd h h0, rfl, List.Perm.refl _⟩ (by repeat (first | exact sub_nil | refine sub_cons rfl ?_)) hsub_a
      · have hjl := (List.getElem?_eq_some_iff.1 hx).1
        obtain ⟨gI, capI, csI, hva, rfl, hcap, hlen, htk, hcell⟩ := openB cellsI_len hI (by omega)
        cases hva
        obtain ⟨y1, y2⟩ := x
        have cI : csI[0 + (j : Int).toNat * 1]? = some (I y2) := hcell j _ (j : Int) 0 _ hx rfl rfl
        have hlt2 : 0 + (j : Int).toNat * 1 < csI.length := (List.getElem?_eq_some_iff.1 cI).1
        have hset := fun v => rowI_set (e := 3) (g := gI) (v := v) hcap hlen htk hx
        have ey : (y2 == 2) = false := beq_eq_false_iff_ne.2 hx2
        by_cases h5 : r = 5
        · rw [if_pos h5] at hL2 ⊢
          repeat' (first | refine aw_seq ?_ | refine zz ?_ | refine zon fun _ => ?_ | refine zoa fun vr lr hr => ?_ | refine zoS (fun _ => ?_) (fun _ => ?_) | refine zqS (fun _ => ?_) (fun _ => ?_) | refine zwS (fun _ => ?_) (fun _ => ?_))
          exact ci_normal ⟨_, _, lK, _, by rw [setF_len, setF_keys]; exact hK, hset 2, fun _ h => by omega, rfl, List.Perm.refl _⟩ (by repeat (first | exact sub_nil | refine sub_cons rfl ?_)) hsub_a
        · rw [if_neg h5] at hL2 ⊢
          have e5 : (r == 5) = false := beq_eq_false_iff_ne.2 h5
          repeat' (first | refine aw_seq ?_ | refine zz ?_ | refine zon fun _ => ?_ | refine zoa fun vr lr hr => ?_ | refine zoS (fun _ => ?_) (fun _ => ?_) | refine zqS (fun _ => ?_) (fun _ => ?_) | refine zwS (fun _ => ?_) (fun _ => ?_))
          exact ci_normal ⟨_, _, lK, _, by rw [setF_len, setF_keys]; exact hK, hset 1, fun _ h _ => turn_set hx (htn h), rfl, List.Perm.refl _⟩ (by repeat (first | exact sub_nil | refine sub_cons rfl ?_)) hsub_a
    clear hK hI
    rintro t H ⟨vK, vI, lK, lI, hK, hI, htn, rfl, hp⟩
    refine aw_permH hp ?_
    clear hp
    obtain ⟨aK, cK, rfl⟩ := hK.len
    obtain ⟨aI, cI, rfl⟩ := hI.len
    have ho := fun w' (hl : Lies w' l2) => lopen_ok hL2 hF2 w' hl
    have hol := open_len f2 f2.es.length
    have hmem := fun m (h : m ∈ openF f2) => open_mem h
    change (openF f2).length ≤ _ at hol
    generalize openF f2 = os at ho hol hmem
    repeat' (first | refine aw_seq ?_ | refine zz ?_ | refine zon fun _ => ?_ | refine zoa fun vr lr hr => ?_ | ((apply ao_callrg; exact wants_a; (exact oc_func rfl); (exact rfl); (intro w hw; exact ho w (lies_of hw (l := l2) cut_a)); intro v6 l6 r6; rw [nats_flat] at r6; obtain ⟨a6, c6, hz6⟩ := r6.len; subst hz6)) | refine zoS (fun _ => ?_) (fun _ => ?_) | refine zqS (fun _ => ?_) (fun _ => ?_) | refine zwS (fun _ => ?_) (fun _ => ?_))
    refine aw_for (t0 := [(0, .slice (some ⟨ga, o1, none⟩) xs.length cp), (4, .pointer (some ⟨g, 0, none⟩)), (5, .slice aK f2.es.length cK), (6, .slice aI f2.es.length cI), (7, I i), (8, I n), (9, .int .u8 r), (10, I er), (11, .slice a6 os.length c6), (12, I (0 : Nat))]) (fun q t H => ∃ p : Nat, q = os.length - p ∧ p ≤ os.length ∧
        t = [(0, .slice (some ⟨ga, o1, none⟩) xs.length cp), (4, .pointer (some ⟨g, 0, none⟩)), (5, .slice aK f2.es.length cK), (6, .slice aI f2.es.length cI), (7, I i), (8, I n), (9, .int .u8 r), (10, I er), (11, .slice a6 os.length c6), (12, I p)] ∧ H = l6 ++ (lK ++ (lI ++ (l2 ++ []))))
      ⟨0, rfl, by omega, rfl, rfl⟩ (by repeat (first | exact sub_nil | refine sub_cons rfl ?_)) ?_
    rintro q t H ⟨p, rfl, hp, rfl, rfl⟩
    by_cases hpl : p < os.length
    · obtain ⟨m, hm⟩ := getP hpl
      obtain ⟨hml, hmo⟩ := hmem m (List.mem_of_getElem? hm)
      obtain ⟨⟨x, is⟩, hx⟩ := getP hml
      obtain rfl : is = 0 := op_is hx hmo
      obtain ⟨g6, cap6, cs6, hz6, rfl, -, -, -, hc6⟩ := openB cellsN_len r6 (by omega)
      cases hz6
      obtain ⟨gK, capK, csK, hzK, rfl, -, -, -, hcK⟩ := openB cellsK_len hK (by omega)
      cases hzK
      obtain ⟨gI, capI, csI, hzI, rfl, -, -, -, hcI⟩ := openB cellsI_len hI (by omega)
      cases hzI
      have c6 : cs6[0 + (p : Int).toNat * 1]? = some (I m) := hc6 p _ (p : Int) 0 _ hm rfl rfl
      have cM : csI[0 + (m : Int).toNat * 1]? = some (I 0) := hcI m _ (m : Int) 0 _ hx rfl rfl
      have slX : sl (0 + (m : Int).toNat * 3) 3 csK = some [S x.1, S x.2.1, S x.2.2] := sl_of (vs := cellsK (x, 0)) (.inl (Nat.zero_lt_succ _)) fun j y hj => hcK m _ (m : Int) j y hx rfl hj
      by_cases hok : 2 ≤ r ∧ r < 5 ∧ er = 0 ∧ (m : Int) < n
      · obtain ⟨k1, k2, rfl, k4⟩ := hok
        obtain ⟨j, ⟨y, js⟩, rfl, hy, hno⟩ := htn k1 k2 rfl
        have hjl := (List.getElem?_eq_some_iff.1 hy).1
        have slY : sl (0 + (j : Int).toNat * 3) 3 csK = some [S y.1, S y.2.1, S y.2.2] := sl_of (vs := cellsK (y, js)) (.inl (Nat.zero_lt_succ _)) fun j2 y2 hj => hcK j _ (j : Int) j2 y2 hy rfl hj
        have hke := key_eq x y
        rw [decide_eq_false (hno m _ (by omega) hx hmo)] at hke
        repeat' (first | refine aw_seq ?_ | refine zz ?_ | refine zon fun _ => ?_ | refine zoa fun vr lr hr => ?_ | refine zoS (fun _ => ?_) (fun _ => ?_) | refine zqS (fun _ => ?_) (fun _ => ?_) | refine zwS (fun _ => ?_) (fun _ => ?_))
        exact lq_normal' ⟨p + 1, rfl, by omega, rfl, rfl⟩ (by omega) (by repeat (first | exact sub_nil | refine sub_cons rfl ?_)) hsub_a
      · by_cases h2 : 2 ≤ r
        · by_cases h5 : r < 5
          · by_cases h0 : er = 0
            · subst h0
              repeat' (first | refine aw_seq ?_ | refine zz ?_ | refine zon fun _ => ?_ | refine zoa fun vr lr hr => ?_ | refine zoS (fun _ => ?_) (fun _ => ?_) | refine zqS (fun _ => ?_) (fun _ => ?_) | refine zwS (fun _ => ?_) (fun _ => ?_))
              exact lq_normal' ⟨p + 1, rfl, by omega, rfl, rfl⟩ (by omega) (by repeat (first | exact sub_nil | refine sub_cons rfl ?_)) hsub_a
            · have e0 : (er == 0) = false := beq_eq_false_iff_ne.2 h0
              repeat' (first | refine aw_seq ?_ | refine zz ?_ | refine zon fun _ => ?_ | refine zoa fun vr lr hr => ?_ | refine zoS (fun _ => ?_) (fun _ => ?_) | refine zqS (fun _ => ?_) (fun _ => ?_) | refine zwS (fun _ => ?_) (fun _ => ?_))
              exact lq_normal' ⟨p + 1, rfl, by omega, rfl, rfl⟩ (by omega) (by repeat (first | exact sub_nil | refine sub_cons rfl ?_)) hsub_a
          · repeat' (first | refine aw_seq ?_ | refine zz ?_ | refine zon fun _ => ?_ | refine zoa fun vr lr hr => ?_ | refine zoS (fun _ => ?_) (fun _ => ?_) | refine zqS (fun _ => ?_) (fun _ => ?_) | refine zwS (fun _ => ?_) (fun _ => ?_))
            exact lq_normal' ⟨p + 1, rfl, by omega, rfl, rfl⟩ (by omega) (by repeat (first | exact sub_nil | refine sub_cons rfl ?_)) hsub_a
        · repeat' (first | refine aw_seq ?_ | refine zz ?_ | refine zon fun _ => ?_ | refine zoa fun vr lr hr => ?_ | refine zoS (fun _ => ?_) (fun _ => ?_) | refine zqS (fun _ => ?_) (fun _ => ?_) | refine zwS (fun _ => ?_) (fun _ => ?_))
          exact lq_normal' ⟨p + 1, rfl, by omega, rfl, rfl⟩ (by omega) (by repeat (first | exact sub_nil | refine sub_cons rfl ?_)) hsub_a
    · obtain rfl : p = os.length := by omega
      repeat' (first | refine aw_seq ?_ | refine zz ?_ | refine zon fun _ => ?_ | refine zoa fun vr lr hr => ?_ | refine zoS (fun _ => ?_) (fun _ => ?_) | refine zqS (fun _ => ?_) (fun _ => ?_) | refine zwS (fun _ => ?_) (fun _ => ?_))
      exact lq_normal' ⟨i + 1, f2, l2, _, _, lK, lI, rfl, by omega, hL2, hF2, by omega, hK, hI, rfl, List.Perm.refl _⟩ (by omega) (by repeat (first | exact sub_nil | refine sub_cons rfl ?_)) hsub_a
  · obtain rfl : i = xs.length := by omega
    repeat' (first | refine aw_seq ?_ | refine zz ?_ | refine zon fun _ => ?_ | refine zoa fun vr lr hr => ?_ | ((first | apply ao_call | apply aq_call); exact wants_a; (first | exact oc_func rfl | exact oc_clos rfl rfl | exact oc_bnd rfl rfl); (exact rfl); (first | exact fun w hw => alive_ok w)) | refine zoS (fun _ => ?_) (fun _ => ?_) | refine zqS (fun _ => ?_) (fun _ => ?_) | refine zwS (fun _ => ?_) (fun _ => ?_))
    exact fun w' hw => ⟨rfl, hw.below⟩
end Fdt
end Go.Proofs.Ytpenogailhlcaaa
