/- The document's answer for layer 10, in the own heap: Tell, Grow; conditions: at most 1,000 events. -/
import Derived.Test.YtpenogailhlcaaaFdc
namespace Go.Proofs.Ytpenogailhlcaaa
namespace Fdt
open Go Go.RowKit Sx
attribute [local irreducible] Go.Calls

theorem blk_s {f : Fd} {k x : Kt} {n : Nat} {is : Int} (h : f.es[n]? = some (x, is)) : blkB f k (n + 1) = (blkB f k n || (opB f n && decide (x = k))) := by
  unfold blkB
  rw [List.range_succ, List.any_append, List.any_cons, List.any_nil, Bool.or_false, h]
theorem blk_t {f : Fd} {k x : Kt} {n m : Nat} {is : Int} (h : f.es[n]? = some (x, is)) (hn : n < m) (ho : opB f n = true) (hk : x = k) : blkB f k m = true := by
  unfold blkB
  rw [List.any_eq_true]
  exact ⟨n, List.mem_range.2 hn, by rw [h, ho]; exact decide_eq_true hk⟩
set_option maxHeartbeats 32000000 in
theorem rtell_ok {m : Nat} {w0 : World} {g : Nat} {f : Fd} {l : Hp} (h : RFd g f l) (hl : f.es.length ≤ 1000) (z : Int) (R : Hp) :
    CallsH Try.prog ⟨w0.heap.size, w0, m⟩ 26 [.pointer (some ⟨g, 0, none⟩), I z] (l ++ R) (RDid g (tellF f z) R) := by
  obtain ⟨vK, vI, lK, lI, rfl, hK, hI⟩ := h
  obtain ⟨aK, cK, rfl⟩ := hK.len
  rw [List.cons_append, List.append_assoc]
  refine callsH1p (args := [.pointer (some ⟨g, 0, none⟩), I z]) Try.func26 rfl rfl rfl rfl ?_
  have same : ∀ er : Int, RDid g (er, f) R (I er) ((g, .cells #[.slice aK f.es.length cK, vI, I f.cov] 31 (0, 0)) :: (lK ++ (lI ++ R))) := fun er => ⟨rfl, _, by rw [← List.append_assoc, ← List.cons_append], _, _, lK, lI, rfl, hK, hI⟩
  rcases tell_cases f z with ⟨he, h0⟩ | ⟨e, hin, he, hr⟩
  · rw [he]
    unfold inF at h0
    by_cases h1 : z < 0
    · repeat' (first | refine aw_seq ?_ | ((first | apply ao_val | apply aq_val); exact wants_a; (first | exact ov_nilcheck rfl | exact ov_a); (exact rfl)) | refine zy ?_ | refine zon fun _ => ?_ | refine zoa fun vr lr hr => ?_ | refine zoS (fun _ => ?_) (fun _ => ?_) | refine zqS (fun _ => ?_) (fun _ => ?_) | refine zwS (fun _ => ?_) (fun _ => ?_))
      exact ⟨_, _, hsub_a, List.Perm.refl _, same 1⟩
    · have h2 : (f.es.length : Int) ≤ z := by omega
      repeat' (first | refine aw_seq ?_ | ((first | apply ao_val | apply aq_val); exact wants_a; (first | exact ov_nilcheck rfl | exact ov_a); (exact rfl)) | refine zy ?_ | refine zon fun _ => ?_ | refine zoa fun vr lr hr => ?_ | refine zoS (fun _ => ?_) (fun _ => ?_) | refine zqS (fun _ => ?_) (fun _ => ?_) | refine zwS (fun _ => ?_) (fun _ => ?_))
      exact ⟨_, _, hsub_a, List.Perm.refl _, same 1⟩
  · unfold inF at hin
    obtain ⟨i, rfl⟩ : ∃ i : Nat, z = i := ⟨z.toNat, by omega⟩
    rw [Int.toNat_natCast] at hr he
    have hi : i < f.es.length := by omega
    obtain ⟨k, is⟩ := e
    simp only at hr
    obtain ⟨gI, capI, csI, rfl, rfl, hcap, hlen, htk, hcell⟩ := openB cellsI_len hI (by omega)
    obtain ⟨gK, capK, csK, hva, rfl, -, -, -, hcellK⟩ := openB cellsK_len hK (by omega)
    cases hva
    have cI : csI[0 + (i : Int).toNat * 1]? = some (I is) := hcell i _ (i : Int) 0 _ he rfl rfl
    have slK : sl (0 + (i : Int).toNat * 3) 3 csK = some [S k.1, S k.2.1, S k.2.2] := sl_of (vs := cellsK (k, is)) (.inl (Nat.zero_lt_succ _)) fun j y hj => hcellK i _ (i : Int) j y he rfl hj
    have hset := fun v => rowI_set (e := 3) (g := gI) (v := v) hcap hlen htk he
    by_cases h2 : is = 2
    · subst h2
      rw [show tellF f i = (6, f) by rcases hr with h | h | h <;> first | exact h.2 | exact absurd rfl h.1]
      repeat' (first | refine aw_seq ?_ | ((first | apply ao_val | apply aq_val); exact wants_a; (first | exact ov_nilcheck rfl | exact ov_a); (exact rfl)) | refine zy ?_ | refine zon fun _ => ?_ | refine zoa fun vr lr hr => ?_ | refine zoS (fun _ => ?_) (fun _ => ?_) | refine zqS (fun _ => ?_) (fun _ => ?_) | refine zwS (fun _ => ?_) (fun _ => ?_))
      exact ⟨_, _, hsub_a, List.Perm.refl _, same 6⟩
    have e2 : (is == 2) = false := beq_eq_false_iff_ne.2 h2
    repeat' (first | refine aw_seq ?_ | ((first | apply ao_val | apply aq_val); exact wants_a; (first | exact ov_nilcheck rfl | exact ov_a); (exact rfl)) | refine zy ?_ | refine zon fun _ => ?_ | refine zoa fun vr lr hr => ?_ | refine zoS (fun _ => ?_) (fun _ => ?_) | refine zqS (fun _ => ?_) (fun _ => ?_) | refine zwS (fun _ => ?_) (fun _ => ?_))
    refine aw_for (t0 := [(0, .pointer (some ⟨g, 0, none⟩)), (1, I i), (5, I (0 : Nat))]) (fun q t H => ∃ n : Nat, q = i - n ∧ n ≤ i ∧ blkB f k n = false ∧ t = [(0, .pointer (some ⟨g, 0, none⟩)), (1, I i), (5, I n)] ∧ H = (g, .cells #[.slice (some ⟨gK, 0, none⟩) f.es.length cK, .slice (some ⟨gI, 0, none⟩) f.es.length capI, I f.cov] 31 (0, 0)) :: ([(gK, .cells csK.toArray 35 (0, 0))] ++ ([(gI, .cells csI.toArray 3 (0, 0))] ++ R)))
      ⟨0, rfl, by omega, rfl, rfl, rfl⟩ (by repeat (first | exact sub_nil | refine sub_cons rfl ?_)) ?_
    rintro q t H ⟨n, rfl, hn, hb, rfl, rfl⟩
    by_cases hlt : n < i
    · obtain ⟨⟨x, js⟩, hx⟩ := getP (show n < f.es.length by omega)
      have cJ : csI[0 + (n : Int).toNat * 1]? = some (I js) := hcell n _ (n : Int) 0 _ hx rfl rfl
      have slX : sl (0 + (n : Int).toNat * 3) 3 csK = some [S x.1, S x.2.1, S x.2.2] := sl_of (vs := cellsK (x, js)) (.inl (Nat.zero_lt_succ _)) fun j y hj => hcellK n _ (n : Int) j y hx rfl hj
      have hke := key_eq x k
      have hst := fun w' (h : RAt w' g f (.slice (some ⟨gK, 0, none⟩) f.es.length cK) (.slice (some ⟨gI, 0, none⟩) f.es.length capI)) => rsettled_ok h hl n (by omega)
      have hob := opB_at hx
      have hbs := blk_s (k := k) hx
      have hbt := blk_t (k := k) hx hlt
      rw [hb, Bool.false_or] at hbs
      generalize stB f n = sB at hst hob
      by_cases hk : x = k
      · rw [decide_eq_true hk] at hke hbs
        rw [Bool.and_true, hob] at hbs
        by_cases h0 : js = 0
        · subst h0
          rw [decide_eq_true rfl, Bool.true_and] at hbs hob
          cases sB
          · have hblk := hbt hob hk
            rw [show tellF f i = (7, f) by rcases hr with h | h | h <;> first | exact absurd h.1 h2 | exact h.2.2 | exact absurd h.2.1 (by rw [hblk]; decide)]
            repeat' (first | refine aw_seq ?_ | ((first | apply ao_val | apply aq_val); exact wants_a; (first | exact ov_nilcheck rfl | exact ov_a); (exact rfl)) | refine zy ?_ | refine zon fun _ => ?_ | refine zoa fun vr lr hr => ?_ | ((first | apply ao_call | apply aq_call); exact wants_a; (first | exact oc_func rfl | exact oc_clos rfl rfl | exact oc_bnd rfl rfl); (exact rfl); (first | exact fun w hw => hst w (rAt_of hw has_a hK cut_a hI cut_a))) | refine zoS (fun _ => ?_) (fun _ => ?_) | refine zqS (fun _ => ?_) (fun _ => ?_) | refine zwS (fun _ => ?_) (fun _ => ?_))
            exact ⟨_, _, hsub_a, List.Perm.refl _, same 7⟩
          · repeat' (first | refine aw_seq ?_ | ((first | apply ao_val | apply aq_val); exact wants_a; (first | exact ov_nilcheck rfl | exact ov_a); (exact rfl)) | refine zy ?_ | refine zon fun _ => ?_ | refine zoa fun vr lr hr => ?_ | ((first | apply ao_call | apply aq_call); exact wants_a; (first | exact oc_func rfl | exact oc_clos rfl rfl | exact oc_bnd rfl rfl); (exact rfl); (first | exact fun w hw => hst w (rAt_of hw has_a hK cut_a hI cut_a))) | refine zoS (fun _ => ?_) (fun _ => ?_) | refine zqS (fun _ => ?_) (fun _ => ?_) | refine zwS (fun _ => ?_) (fun _ => ?_))
            exact lq_normal' ⟨n + 1, rfl, by omega, hbs, rfl, rfl⟩ (by omega) (by repeat (first | exact sub_nil | refine sub_cons rfl ?_)) hsub_a
        · have e0 : (js == 0) = false := beq_eq_false_iff_ne.2 h0
          rw [decide_eq_false h0, Bool.false_and] at hbs
          repeat' (first | refine aw_seq ?_ | ((first | apply ao_val | apply aq_val); exact wants_a; (first | exact ov_nilcheck rfl | exact ov_a); (exact rfl)) | refine zy ?_ | refine zon fun _ => ?_ | refine zoa fun vr lr hr => ?_ | ((first | apply ao_call | apply aq_call); exact wants_a; (first | exact oc_func rfl | exact oc_clos rfl rfl | exact oc_bnd rfl rfl); (exact rfl); (first | exact fun w hw => hst w (rAt_of hw has_a hK cut_a hI cut_a))) | refine zoS (fun _ => ?_) (fun _ => ?_) | refine zqS (fun _ => ?_) (fun _ => ?_) | refine zwS (fun _ => ?_) (fun _ => ?_))
          exact lq_normal' ⟨n + 1, rfl, by omega, hbs, rfl, rfl⟩ (by omega) (by repeat (first | exact sub_nil | refine sub_cons rfl ?_)) hsub_a
      · rw [decide_eq_false hk] at hke hbs
        rw [Bool.and_false] at hbs
        repeat' (first | refine aw_seq ?_ | ((first | apply ao_val | apply aq_val); exact wants_a; (first | exact ov_nilcheck rfl | exact ov_a); (exact rfl)) | refine zy ?_ | refine zon fun _ => ?_ | refine zoa fun vr lr hr => ?_ | ((first | apply ao_call | apply aq_call); exact wants_a; (first | exact oc_func rfl | exact oc_clos rfl rfl | exact oc_bnd rfl rfl); (exact rfl); (first | exact fun w hw => hst w (rAt_of hw has_a hK cut_a hI cut_a))) | refine zoS (fun _ => ?_) (fun _ => ?_) | refine zqS (fun _ => ?_) (fun _ => ?_) | refine zwS (fun _ => ?_) (fun _ => ?_))
        exact lq_normal' ⟨n + 1, rfl, by omega, hbs, rfl, rfl⟩ (by omega) (by repeat (first | exact sub_nil | refine sub_cons rfl ?_)) hsub_a
    · obtain rfl : n = i := by omega
      rw [show tellF f n = (0, setF f n 1) by rcases hr with h | h | h <;> first | exact absurd h.1 h2 | exact h.2.2 | exact absurd h.2.1 (by rw [hb]; decide)]
      have hlt2 : 0 + (n : Int).toNat * 1 < csI.length := (List.getElem?_eq_some_iff.1 cI).1
      repeat' (first | refine aw_seq ?_ | ((first | apply ao_val | apply aq_val); exact wants_a; (first | exact ov_nilcheck rfl | exact ov_a); (exact rfl)) | refine zy ?_ | refine zon fun _ => ?_ | refine zoa fun vr lr hr => ?_ | refine zoS (fun _ => ?_) (fun _ => ?_) | refine zqS (fun _ => ?_) (fun _ => ?_) | refine zwS (fun _ => ?_) (fun _ => ?_))
      exact ⟨_, _, hsub_a, List.Perm.refl _, rfl, (g, .cells #[.slice (some ⟨gK, 0, none⟩) f.es.length cK, .slice (some ⟨gI, 0, none⟩) f.es.length capI, I f.cov] 31 (0, 0)) :: ([(gK, .cells csK.toArray 35 (0, 0))] ++ [(gI, .cells (csI.set (0 + (n : Int).toNat * 1) (I 1)).toArray 3 (0, 0))]), rfl, _, _, _, _, rfl, by rw [setF_len, setF_keys]; exact hK, hset 1⟩
/-- append of a row of the call's own to another one. -/
theorem ao_append_b {P : Program} {E : Env} {kd : Bool} {Q : Exit → Tm → Hp → Prop} {t : Tm} {H : Hp} {ops : Array Oper} {rest : List Oper} {d : Nat} {x y : Operand} {t1 ty2 e e2 : TypeId} {sz by_ : Nat} {pos : String} {af : Array Edge} {gd : Option (Nat × Bool)} {v u : Value} {l R k R2 : Hp} {n m : Nat} {xs news : List Value} [TySl P t1 e sz by_]
    (hw : Wants ops t gd) (hx : ev t x = some v) (hrow : RowB e sz v l n xs) (hy : ev t y = some u) (hrow2 : RowB e2 sz u k m news) (hk : Cut H k R2) (hcut : Cut H l R)
    (hf : news.all flat = true) (hbd : (n + m) * by_ ≤ 140737488355328) (h63 : n + m ≤ 9223372036854775807) (hd : Nat.blt d E.n = true)
    (h : ∀ v' l', RowB e sz v' l' (n + m) (xs ++ news) → ao kd P E ops Q rest ((d, v') :: t) (l' ++ R)) :
    ao kd P E ops Q (⟨some d, .call ⟨.builtin .append, #[x, y], #[t1, t1]⟩, ty2, pos, af, gd⟩ :: rest) t H := by
  rcases Nat.eq_zero_or_pos m with h0 | h0
  · subst h0
    obtain ⟨a, c, rfl⟩ := hrow2.len
    have hn0 : news = [] := List.eq_nil_of_length_eq_zero (by simpa using hrow2.1)
    subst hn0
    refine ao_append0 hw hx hrow hy hd ?_
    have := h v l (by simpa using hrow)
    exact ao_permH hcut this
  · obtain ⟨g, cap, cs, rfl, -⟩ := hrow2.open h0
    refine ao_append_g hw hx hrow hy hcut hrow2.1 (fun w hh j u hj => ?_) hf h0 hbd h63 hd h
    obtain ⟨g2, o2, c2, e1, -, hcells⟩ := (hh.oldr hrow2 hk).open h0
    cases e1
    rw [add_off]
    exact hcells j u hj
theorem perm_g {x : Nat × Obj} {l1 l2 R : Hp} : (l2 ++ (l1 ++ x :: R)).Perm (x :: (l1 ++ l2) ++ R) := by classical exact List.perm_iff_count.2 fun y => by simp only [List.count_append, List.count_cons]; omega
theorem growK {v : Value} {l : Hp} {f : Fd} {k : Kt} {e : TypeId} (h : RowB e 3 v l (0 + f.es.length + 1) ([] ++ f.es.flatMap cellsK ++ [S k.1, S k.2.1, S k.2.2])) : RowB e 3 v l (growF f k).es.length ((growF f k).es.flatMap cellsK) := by
  rw [Nat.zero_add, List.nil_append] at h
  unfold growF
  rw [List.length_append, List.flatMap_append]
  exact h
theorem growI {v : Value} {l : Hp} {f : Fd} {k : Kt} {e : TypeId} (h : RowB e 1 v l (0 + f.es.length + 1) ([] ++ f.es.flatMap cellsI ++ [I 0])) : RowB e 1 v l (growF f k).es.length ((growF f k).es.flatMap cellsI) := by
  rw [Nat.zero_add, List.nil_append] at h
  unfold growF
  rw [List.length_append, List.flatMap_append]
  exact h
set_option maxHeartbeats 32000000 in
theorem rgrow_ok {m : Nat} {w0 : World} {g : Nat} {f : Fd} {l : Hp} (h : RFd g f l) (hl : f.es.length ≤ 1000) (k : Kt) (R : Hp) :
    CallsH Try.prog ⟨w0.heap.size, w0, m⟩ 23 [.pointer (some ⟨g, 0, none⟩), K3 k] (l ++ R) fun u H' => u = .tuple #[] ∧ ∃ l', H' = l' ++ R ∧ RFd g (growF f k) l' := by
  obtain ⟨vK, vI, lK, lI, rfl, hK, hI⟩ := h
  obtain ⟨aK, cK, rfl⟩ := hK.len
  obtain ⟨aI, cI, rfl⟩ := hI.len
  have hfK := flatK_flat f.es
  have hfI := flatI_flat f.es
  rw [List.cons_append, List.append_assoc]
  refine callsH0p (args := [.pointer (some ⟨g, 0, none⟩), K3 k]) Try.func23 rfl rfl rfl rfl ?_
  repeat' (first | (apply ao_nilh; exact hsub_a) | apply ao_nil | apply aq_nil | apply ah_end | ((first | apply ao_val | apply aq_val | (apply ah_take; (exact rfl))); exact wants_a; (first | exact ov_nilcheck rfl | exact ov_a); (exact rfl)) | ((first | apply ao_skip | apply aq_skip | (apply ah_skip; (exact rfl))); exact nots_a; (exact rfl)) | (refine ao_is ?_; first | (apply ao_new; exact wants_a; exact on_a; (exact rfl); intro _) | (apply ao_store; exact wants_a; exact ow_a; exact upd_a) | (apply ao_valw; exact wants_a; exact ox_a; (exact rfl); exact upd_a) | (apply ao_skip0; exact nots_a) | (apply ao_append; exact wants_a; (exact rfl); assumption; (exact rfl); exact cut_a; exact has_a; (exact rfl); (exact rfl); omega; omega; omega; (exact rfl); intro vr lr hr)) | (apply ao_append_b; exact wants_a; exact rfl; exact RowB.lit0; exact rfl; exact hK; exact cut_a; exact cut_a; exact hfK; omega; omega; exact rfl; intro vr lr hr) | (apply ah_one; (exact rfl)) | (apply ah_two; (exact rfl); (exact rfl)) | (apply ah_three; (exact rfl); (exact rfl); (exact rfl)) | (refine aw_is ?_; first | (apply aw_held (id := 1) (pl := (.t 0 (.t 2 (.t 3 (.t 4 (.t 7 (.v 1 (.w 5 (.w 6 (.o 8 (.o 9 (.t 10 (.t 11 (.o 12 .e))))) 8 (.o 6 (.o 9 (.t 10 (.t 11 (.o 12 .e)))))) 8 (.o 5 (.o 6 (.o 9 (.t 10 (.t 11 (.o 12 .e))))))) 5 (.w 1 (.w 6 (.o 8 (.o 9 (.t 10 (.t 11 (.o 12 .e))))) 8 (.o 6 (.o 9 (.t 10 (.t 11 (.o 12 .e)))))) 8 (.o 1 (.o 6 (.o 9 (.t 10 (.t 11 (.o 12 .e))))))) 8 (.w 1 (.o 5 (.o 6 (.o 9 (.t 10 (.t 11 (.o 12 .e)))))) 5 (.o 1 (.o 6 (.o 9 (.t 10 (.t 11 (.o 12 .e)))))))))))))); (kernel_rfl); (kernel_rfl); (kernel_rfl); (solve | (apply hs_keep; apply hs_skip; exact List.Sublist.refl _))) | refine aw_seq ?_ | refine aw_block ?_ | refine aw_region ?_ | refine aw_skip ?_ | refine aw_exit ?_ | refine aw_ret ?_ | refine aw_label ?_ | refine aw_scope ?_ | refine aw_cond_t rfl (by with_reducible rfl) ?_ | refine aw_cond_f rfl (by with_reducible rfl) ?_ | refine aw_draw (by kernel_rfl) (by kernel_rfl) ?_) | (first | (refine ah_is ?_; (fail_if_success first | refine ah_glit (b := true) rfl rfl rfl (by with_reducible rfl) ?_ | refine ah_glit (b := false) rfl rfl rfl (by with_reducible rfl) ?_); apply ah_gt; (exact rfl); (exact rfl); (exact rfl); exact t_a) | ((refine ao_is ?_; (fail_if_success first | refine ao_glit (b := true) rfl rfl (by with_reducible rfl) ?_ | refine ao_glit (b := false) rfl rfl (by with_reducible rfl) ?_)); apply ao_gt; (exact rfl); (exact rfl); exact t_a) | ((refine aq_is ?_; (fail_if_success first | refine aq_glit (b := true) rfl rfl (by with_reducible rfl) ?_ | refine aq_glit (b := false) rfl rfl (by with_reducible rfl) ?_)); apply aq_gt; (exact rfl); (exact rfl); exact t_a) | (apply aw_ct; (exact rfl); exact t_a)) | (first | (refine ah_is ?_; (fail_if_success first | refine ah_glit (b := true) rfl rfl rfl (by with_reducible rfl) ?_ | refine ah_glit (b := false) rfl rfl rfl (by with_reducible rfl) ?_); apply ah_gf; (exact rfl); (exact rfl); (exact rfl); exact f_a) | ((refine ao_is ?_; (fail_if_success first | refine ao_glit (b := true) rfl rfl (by with_reducible rfl) ?_ | refine ao_glit (b := false) rfl rfl (by with_reducible rfl) ?_)); apply ao_gf; (exact rfl); (exact rfl); exact f_a) | ((refine aq_is ?_; (fail_if_success first | refine aq_glit (b := true) rfl rfl (by with_reducible rfl) ?_ | refine aq_glit (b := false) rfl rfl (by with_reducible rfl) ?_)); apply aq_gf; (exact rfl); (exact rfl); exact f_a) | (apply aw_cf; (exact rfl); exact f_a)) | refine at_normal ?_ | refine at_exit ?_ | refine at_ret ?_ | refine ib_normal ?_ | refine ib_exit ?_ | refine ib_other ?_ | refine ib_ret ?_ | refine lq_exit ?_ | refine lq_ret ?_ | refine ci_ret ?_ | refine ci_exit ?_ | refine r1_ret rfl ?_ | refine r1_normal rfl ?_ | refine r2_ret rfl rfl ?_ | refine r2_normal rfl rfl ?_ | refine r3_ret rfl rfl rfl ?_ | refine r3_normal rfl rfl rfl ?_ | refine ng_normal ?_ | refine ng_exit ?_ | refine ng_ret ?_ | (apply rt_ret; (exact rfl); (exact rfl); (exact rfl); exact has_a; exact has_a; (exact rfl); (exact rfl)) | (apply rc1_ret; (exact rfl); exact has_a; (exact rfl)) | (apply rc2_ret; (exact rfl); exact has_a; (exact rfl); (exact rfl)) | (refine ao_is ?_; (fail_if_success first | refine ao_glit (b := true) rfl rfl (by with_reducible rfl) ?_ | refine ao_glit (b := false) rfl rfl (by with_reducible rfl) ?_); refine ao_gbool rfl rfl (fun _ => ?_) (fun _ => ?_)) | (refine aq_is ?_; (fail_if_success first | refine aq_glit (b := true) rfl rfl (by with_reducible rfl) ?_ | refine aq_glit (b := false) rfl rfl (by with_reducible rfl) ?_); refine aq_gbool rfl rfl (fun _ => ?_) (fun _ => ?_)) | (refine aw_is ?_; refine aw_cond rfl (fun _ => ?_) (fun _ => ?_)))
  all_goals revert vr lr hr
  all_goals intro v1 l1 hrow
  all_goals obtain ⟨x1, y1, hx1⟩ := hrow.len
  all_goals subst hx1
  repeat' (first | (apply ao_nilh; exact hsub_a) | apply ao_nil | apply aq_nil | apply ah_end | ((first | apply ao_val | apply aq_val | (apply ah_take; (exact rfl))); exact wants_a; (first | exact ov_nilcheck rfl | exact ov_a); (exact rfl)) | ((first | apply ao_skip | apply aq_skip | (apply ah_skip; (exact rfl))); exact nots_a; (exact rfl)) | (refine ao_is ?_; first | (apply ao_new; exact wants_a; exact on_a; (exact rfl); intro _) | (apply ao_store; exact wants_a; exact ow_a; exact upd_a) | (apply ao_valw; exact wants_a; exact ox_a; (exact rfl); exact upd_a) | (apply ao_skip0; exact nots_a) | (apply ao_append; exact wants_a; (exact rfl); assumption; (exact rfl); exact cut_a; exact has_a; (exact rfl); (exact rfl); omega; omega; omega; (exact rfl); intro vr lr hr)) | (apply ao_append_b; exact wants_a; exact rfl; exact RowB.lit0; exact rfl; exact hI; exact cut_a; exact cut_a; exact hfI; omega; omega; exact rfl; intro vr lr hr) | (apply ah_one; (exact rfl)) | (apply ah_two; (exact rfl); (exact rfl)) | (apply ah_three; (exact rfl); (exact rfl); (exact rfl)) | (refine aw_is ?_; first | (apply aw_held (id := 1) (pl := (.t 0 (.t 2 (.t 3 (.t 4 (.t 7 (.v 1 (.w 5 (.w 6 (.o 8 (.o 9 (.t 10 (.t 11 (.o 12 .e))))) 8 (.o 6 (.o 9 (.t 10 (.t 11 (.o 12 .e)))))) 8 (.o 5 (.o 6 (.o 9 (.t 10 (.t 11 (.o 12 .e))))))) 5 (.w 1 (.w 6 (.o 8 (.o 9 (.t 10 (.t 11 (.o 12 .e))))) 8 (.o 6 (.o 9 (.t 10 (.t 11 (.o 12 .e)))))) 8 (.o 1 (.o 6 (.o 9 (.t 10 (.t 11 (.o 12 .e))))))) 8 (.w 1 (.o 5 (.o 6 (.o 9 (.t 10 (.t 11 (.o 12 .e)))))) 5 (.o 1 (.o 6 (.o 9 (.t 10 (.t 11 (.o 12 .e)))))))))))))); (kernel_rfl); (kernel_rfl); (kernel_rfl); (solve | (apply hs_keep; apply hs_skip; exact List.Sublist.refl _))) | refine aw_seq ?_ | refine aw_block ?_ | refine aw_region ?_ | refine aw_skip ?_ | refine aw_exit ?_ | refine aw_ret ?_ | refine aw_label ?_ | refine aw_scope ?_ | refine aw_cond_t rfl (by with_reducible rfl) ?_ | refine aw_cond_f rfl (by with_reducible rfl) ?_ | refine aw_draw (by kernel_rfl) (by kernel_rfl) ?_) | (first | (refine ah_is ?_; (fail_if_success first | refine ah_glit (b := true) rfl rfl rfl (by with_reducible rfl) ?_ | refine ah_glit (b := false) rfl rfl rfl (by with_reducible rfl) ?_); apply ah_gt; (exact rfl); (exact rfl); (exact rfl); exact t_a) | ((refine ao_is ?_; (fail_if_success first | refine ao_glit (b := true) rfl rfl (by with_reducible rfl) ?_ | refine ao_glit (b := false) rfl rfl (by with_reducible rfl) ?_)); apply ao_gt; (exact rfl); (exact rfl); exact t_a) | ((refine aq_is ?_; (fail_if_success first | refine aq_glit (b := true) rfl rfl (by with_reducible rfl) ?_ | refine aq_glit (b := false) rfl rfl (by with_reducible rfl) ?_)); apply aq_gt; (exact rfl); (exact rfl); exact t_a) | (apply aw_ct; (exact rfl); exact t_a)) | (first | (refine ah_is ?_; (fail_if_success first | refine ah_glit (b := true) rfl rfl rfl (by with_reducible rfl) ?_ | refine ah_glit (b := false) rfl rfl rfl (by with_reducible rfl) ?_); apply ah_gf; (exact rfl); (exact rfl); (exact rfl); exact f_a) | ((refine ao_is ?_; (fail_if_success first | refine ao_glit (b := true) rfl rfl (by with_reducible rfl) ?_ | refine ao_glit (b := false) rfl rfl (by with_reducible rfl) ?_)); apply ao_gf; (exact rfl); (exact rfl); exact f_a) | ((refine aq_is ?_; (fail_if_success first | refine aq_glit (b := true) rfl rfl (by with_reducible rfl) ?_ | refine aq_glit (b := false) rfl rfl (by with_reducible rfl) ?_)); apply aq_gf; (exact rfl); (exact rfl); exact f_a) | (apply aw_cf; (exact rfl); exact f_a)) | refine at_normal ?_ | refine at_exit ?_ | refine at_ret ?_ | refine ib_normal ?_ | refine ib_exit ?_ | refine ib_other ?_ | refine ib_ret ?_ | refine lq_exit ?_ | refine lq_ret ?_ | refine ci_ret ?_ | refine ci_exit ?_ | refine r1_ret rfl ?_ | refine r1_normal rfl ?_ | refine r2_ret rfl rfl ?_ | refine r2_normal rfl rfl ?_ | refine r3_ret rfl rfl rfl ?_ | refine r3_normal rfl rfl rfl ?_ | refine ng_normal ?_ | refine ng_exit ?_ | refine ng_ret ?_ | (apply rt_ret; (exact rfl); (exact rfl); (exact rfl); exact has_a; exact has_a; (exact rfl); (exact rfl)) | (apply rc1_ret; (exact rfl); exact has_a; (exact rfl)) | (apply rc2_ret; (exact rfl); exact has_a; (exact rfl); (exact rfl)) | (refine ao_is ?_; (fail_if_success first | refine ao_glit (b := true) rfl rfl (by with_reducible rfl) ?_ | refine ao_glit (b := false) rfl rfl (by with_reducible rfl) ?_); refine ao_gbool rfl rfl (fun _ => ?_) (fun _ => ?_)) | (refine aq_is ?_; (fail_if_success first | refine aq_glit (b := true) rfl rfl (by with_reducible rfl) ?_ | refine aq_glit (b := false) rfl rfl (by with_reducible rfl) ?_); refine aq_gbool rfl rfl (fun _ => ?_) (fun _ => ?_)) | (refine aw_is ?_; refine aw_cond rfl (fun _ => ?_) (fun _ => ?_)))
  all_goals revert vr lr hr
  all_goals intro v2 l2 hr2
  all_goals obtain ⟨x2, y2, hx2⟩ := hr2.len
  all_goals subst hx2
  repeat' (first | refine aw_seq ?_ | ((first | apply ao_val | apply aq_val); exact wants_a; (first | exact ov_nilcheck rfl | exact ov_a); (exact rfl)) | refine zy ?_ | refine zon fun _ => ?_ | refine zoa fun vr lr hr => ?_ | refine zoS (fun _ => ?_) (fun _ => ?_) | refine zqS (fun _ => ?_) (fun _ => ?_) | refine zwS (fun _ => ?_) (fun _ => ?_))
  all_goals exact ⟨l2 ++ (l1 ++ (g, .cells #[.slice x1 (0 + f.es.length + 1) y1, .slice x2 (0 + f.es.length + 1) y2, I f.cov] 31 (0, 0)) :: R), _, hsub_a, perm_g, _, rfl, _, _, _, _, rfl, growK hrow, growI hr2⟩
end Fdt
end Go.Proofs.Ytpenogailhlcaaa
