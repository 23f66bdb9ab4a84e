/- Walk of layer 6: ScopeSides; conditions: what the landed code reads. -/
import Derived.Test.YtlokhemlpmalaaaDoorScpa
import Derived.Test.YtlokhemlpmalaaaDoorScpn
namespace Go.Proofs.YtlokhemlpmalaaaDoor
namespace Scp
open Go Go.RowKit Sx Lab
attribute [local irreducible] Go.Calls

theorem one_right (t : Trm) : rightS [t] = termB t := by simp [rightS]
/-- A term with the opposite op may be, too, and of both just one holds. -/
theorem opp {op : Int} (vs : List Nm) (c : Nm) (tm bs : Bool) (h : 0 ≤ op ∧ op ≤ 7) {op2 : Int} (h2 : op2 = if op.tmod 2 = 0 then op + 1 else op - 1) : termB (op2, vs) = termB (op, vs) ∧ asksB op2 vs c tm bs = !asksB op vs c tm bs := by
  rcases op_cases h with rfl | rfl | rfl | rfl | rfl | rfl | rfl | rfl
  · obtain rfl : op2 = 1 := by rw [h2]; rfl
    exact ⟨rfl, by simp [asksB]⟩
  · obtain rfl : op2 = 0 := by rw [h2]; rfl
    exact ⟨rfl, by simp [asksB]⟩
  · obtain rfl : op2 = 3 := by rw [h2]; rfl
    exact ⟨rfl, by simp [asksB, bne]⟩
  · obtain rfl : op2 = 2 := by rw [h2]; rfl
    exact ⟨rfl, by simp [asksB, bne]⟩
  · obtain rfl : op2 = 5 := by rw [h2]; rfl
    exact ⟨rfl, by simp [asksB]⟩
  · obtain rfl : op2 = 4 := by rw [h2]; rfl
    exact ⟨rfl, by simp [asksB]⟩
  · obtain rfl : op2 = 7 := by rw [h2]; rfl
    exact ⟨rfl, by simp [asksB]⟩
  · obtain rfl : op2 = 6 := by rw [h2]; rfl
    exact ⟨rfl, by simp [asksB]⟩
theorem sides {op : Int} (vs : List Nm) (c : Nm) (tm bs : Bool) {op2 : Int} (h2 : 0 ≤ op ∧ op ≤ 7 → op2 = if op.tmod 2 = 0 then op + 1 else op - 1) :
    termB (op, vs) = true ∧ holdsB (op2, vs) c tm bs = !holdsB (op, vs) c tm bs ∨ termB (op, vs) = false ∧ holdsB (op, vs) c tm bs = false ∧ (holdsB (op2, vs) c tm bs = false ∨ op < 0 ∨ 7 < op) := by
  by_cases h : 0 ≤ op ∧ op ≤ 7
  · obtain ⟨e1, e2⟩ := opp vs c tm bs h (h2 h)
    cases ht : termB (op, vs)
    · rw [ht] at e1
      exact .inr ⟨rfl, by unfold holdsB; rw [ht]; rfl, .inl (by unfold holdsB; rw [e1]; rfl)⟩
    · rw [ht] at e1
      exact .inl ⟨rfl, by unfold holdsB; rw [ht, e1, e2]; rfl⟩
  · have ht : termB (op, vs) = false := by unfold termB; rw [decide_eq_false (by simpa using h)]; rfl
    exact .inr ⟨ht, by unfold holdsB; rw [ht]; rfl, .inr (by omega)⟩
theorem right_snoc {ts : List Trm} {t : Trm} (h : rightS (ts ++ [t]) = true) : rightS ts = true := by
  unfold rightS at *
  simp only [List.all_append, List.length_append, List.length_singleton, Bool.and_eq_true, decide_eq_true_eq] at *
  exact ⟨h.1.1, by omega⟩
theorem match_snoc {ts : List Trm} {t : Trm} {c : Nm} {tm bs : Bool} (h : matchS (ts ++ [t]) c tm bs = true) : matchS ts c tm bs = true ∧ holdsB t c tm bs = true := by
  unfold matchS at *
  rw [Bool.and_eq_true] at h
  have h1 := right_snoc h.2
  have h2 := h.1
  rw [List.all_append, Bool.and_eq_true] at h2
  rw [h1, h2.1]
  exact ⟨rfl, by simpa using h2.2⟩
theorem all_snoc {ps : List (Value × Trm)} {i : Nat} {p : Value × Trm} {f : Trm → Bool} (h : ps[i]? = some p) : ((trms ps).take (i + 1)).all f = (((trms ps).take i).all f && f p.2) := by
  rw [List.take_add_one, trm_at h, List.all_append]
  simp
theorem flat_t : ∀ (ps : List (Value × Trm)), (∀ p ∈ ps, flat p.1 = true) → (ps.flatMap cellsT).all flat = true
  | [], _ => rfl
  | p :: ps, h => by
    have ih := flat_t ps fun q hq => h q (List.mem_cons_of_mem p hq)
    rw [List.flatMap_cons, List.all_append, ih, Bool.and_true]
    show (true && (flat p.1 && true)) = true
    rw [h p List.mem_cons_self]
    rfl
theorem flat_u {w : World} {u : Value} {vs : List Nm} (h : TxtAt w u vs) : flat u = true := by
  obtain ⟨a, c, rfl, -⟩ := OldRow.cells cellsS_len h
  rfl

section
variable {bt ba bb : Bool} {op : Int}
theorem no_1 (hs : bt = true ∧ bb = !ba ∨ bt = false ∧ ba = false ∧ (bb = false ∨ op < 0 ∨ 7 < op)) (h : bt = true) (g : (ba == bb) = true) : False := by
  rcases hs with ⟨-, h2⟩ | ⟨h1, -⟩
  · subst h2; cases ba <;> cases g
  · rw [h] at h1; cases h1
theorem no_2 {b : Bool} (h : b = true) (g : (!b) = true) : False := by subst h; cases g
theorem no_3 (hs : bt = true ∧ bb = !ba ∨ bt = false ∧ ba = false ∧ (bb = false ∨ op < 0 ∨ 7 < op)) (h : bt = false) (g : ba = true) : False := by
  rcases hs with ⟨h1, -⟩ | ⟨-, h2, -⟩
  · rw [h] at h1; cases h1
  · rw [g] at h2; cases h2
theorem no_4 (hs : bt = true ∧ bb = !ba ∨ bt = false ∧ ba = false ∧ (bb = false ∨ op < 0 ∨ 7 < op)) (h : bt = false) (g : bb = true) (h0 : decide (0 ≤ op) = true) (h7 : decide (op ≤ 7) = true) : False := by
  have h0 := of_decide_eq_true h0
  have h7 := of_decide_eq_true h7
  rcases hs with ⟨h1, -⟩ | ⟨-, -, h3 | h3 | h3⟩
  · rw [h] at h1; cases h1
  · rw [g] at h3; cases h3
  · omega
  · omega
end

set_option maxHeartbeats 64000000 in
theorem sides_ok (va u ov : Value) (ps : List (Value × Trm)) (op : Int) (vs : List Nm) (o : Ojt.Ob) (hop : -9223372036854775808 ≤ op ∧ op ≤ 9223372036854775807) (w : World) (hG : Glo w) (hva : ScpAt w va ps) (hu : TxtAt w u vs) (ho : Vec.ResAt w ov o.rs) :
    Calls Tryd.prog 5 #[va, .agg #[I op, u], Ojt.OV o ov] w fun e w' => e = .returned (.bool true) ∧ Below w.heap.size w w' := by
  obtain ⟨ar, cr, rfl, hat⟩ := OldRow.cells cellsT_len hva.1
  have hfu := flat_u hu
  have hfl := flat_t ps fun p hp => flat_u (hva.2 p hp)
  obtain ⟨ur, er, rfl, -⟩ := OldRow.cells cellsS_len hu
  refine calls1 (args := [.slice ar ps.length cr, .agg #[I op, .slice ur vs.length er], Ojt.OV o ov]) Tryd.func5 rfl rfl rfl rfl ?_
  have f1 := fun w' (hb : Below w.heap.size w w') => fits_ok _ ps w' (hva.below hb)
  have f3 := fun w' b (h : ScpAt w' (.slice (some ⟨b, 0, none⟩) 1 1) [(.slice ur vs.length er, op, vs)]) => fits_ok _ _ w' h
  have f4 := fun w' (hb : Below w.heap.size w w') => Ojt.fits_ok o ov w' (ho.below hb)
  cases h1 : fitS (trms ps)
  · rw [h1] at f1
    repeat' (first | refine aw_seq ?_ | refine zz ?_ | refine zon fun _ => ?_ | refine zoa fun vr lr hr => ?_ | ((first | apply ao_call | apply aq_call); exact wants_a; (first | exact oc_func rfl | exact oc_clos rfl rfl); (exact rfl); (first | exact fun w hw => f1 w hw.below | exact fun w hw => f3 w _ (lit_at hw cut_a (hu.below hw.below)) | exact fun w hw => f4 w hw.below | exact fun w hw => alive_ok w (hG.below hw.below))) | refine zoS (fun _ => ?_) (fun _ => ?_) | refine zqS (fun _ => ?_) (fun _ => ?_) | refine zwS (fun _ => ?_) (fun _ => ?_))
    exact fun w' hw => ⟨rfl, hw.below⟩
  rw [h1] at f1
  cases h3 : fitS (trms [((.slice ur vs.length er : Value), op, vs)])
  · rw [h3] at f3
    repeat' (first | refine aw_seq ?_ | refine zz ?_ | refine zon fun _ => ?_ | refine zoa fun vr lr hr => ?_ | ((first | apply ao_call | apply aq_call); exact wants_a; (first | exact oc_func rfl | exact oc_clos rfl rfl); (exact rfl); (first | exact fun w hw => f1 w hw.below | exact fun w hw => f3 w _ (lit_at hw cut_a (hu.below hw.below)) | exact fun w hw => f4 w hw.below | exact fun w hw => alive_ok w (hG.below hw.below))) | refine zoS (fun _ => ?_) (fun _ => ?_) | refine zqS (fun _ => ?_) (fun _ => ?_) | refine zwS (fun _ => ?_) (fun _ => ?_))
    exact fun w' hw => ⟨rfl, hw.below⟩
  rw [h3] at f3
  cases h4 : Ojt.fitO o
  · rw [h4] at f4
    repeat' (first | refine aw_seq ?_ | refine zz ?_ | refine zon fun _ => ?_ | refine zoa fun vr lr hr => ?_ | ((first | apply ao_call | apply aq_call); exact wants_a; (first | exact oc_func rfl | exact oc_clos rfl rfl); (exact rfl); (first | exact fun w hw => f1 w hw.below | exact fun w hw => f3 w _ (lit_at hw cut_a (hu.below hw.below)) | exact fun w hw => f4 w hw.below | exact fun w hw => alive_ok w (hG.below hw.below))) | refine zoS (fun _ => ?_) (fun _ => ?_) | refine zqS (fun _ => ?_) (fun _ => ?_) | refine zwS (fun _ => ?_) (fun _ => ?_))
    exact fun w' hw => ⟨rfl, hw.below⟩
  rw [h4] at f4
  obtain ⟨w1, l20, -⟩ := fit_wf h1
  have w3 : wfN vs := (fit_wf h3).1.2 _ (List.mem_singleton.2 rfl)
  have wt : wfP [((.slice ur vs.length er : Value), op, vs)] := (fit_wf h3).1
  have g1 := fun w' b (h : ScpAt w' (.slice (some ⟨b, 0, none⟩) 1 1) [(.slice ur vs.length er, op, vs)]) => pright_ok _ _ wt w' h
  rw [show rightS (trms [((.slice ur vs.length er : Value), op, vs)]) = termB (op, vs) from one_right _] at g1
  have g2 := fun w' (hb : Below w.heap.size w w') => pholds_ok op _ vs o.k o.s o.n o.ver o.c o.tm o.bs ov w3 w' (hu.below hb)
  have g3 := fun w' (hb : Below w.heap.size w w') => pholds_ok (IntKind.i64.wrap (op + 1)) _ vs o.k o.s o.n o.ver o.c o.tm o.bs ov w3 w' (hu.below hb)
  have g4 := fun w' (hb : Below w.heap.size w w') => pholds_ok (IntKind.i64.wrap (op - 1)) _ vs o.k o.s o.n o.ver o.c o.tm o.bs ov w3 w' (hu.below hb)
  obtain ⟨ba, hba⟩ : ∃ b, b = holdsB (op, vs) o.c o.tm o.bs := ⟨_, rfl⟩
  obtain ⟨bt, hbt⟩ : ∃ b, b = termB (op, vs) := ⟨_, rfl⟩
  rw [← hba] at g2
  rw [← hbt] at g1
  repeat' (first | refine aw_cutI_at (id := 11) (fun t H => ∃ ga gb gu op2, (bt = true ∧ holdsB (op2, vs) o.c o.tm o.bs = !ba ∨ bt = false ∧ ba = false ∧ (holdsB (op2, vs) o.c o.tm o.bs = false ∨ op < 0 ∨ 7 < op)) ∧ t = [(0, .slice ar ps.length cr), (4, .pointer (some ⟨ga, 0, none⟩)), (5, .pointer (some ⟨gb, 0, none⟩)), (10, .bool bt), (11, .pointer (some ⟨gu, 0, none⟩))] ∧ H = [(gu, .cells #[I op2, .slice ur vs.length er] 28), (gb, .cells #[S o.k, S o.s, S o.n, I o.ver, S o.c, .bool o.tm, .bool o.bs, ov] 33), (ga, .cells #[I op, .slice ur vs.length er] 28)]) ?_ ?_ | refine aw_cutI_at2 (id := 11) (fun t H => ∃ ga gb gu op2, (bt = true ∧ holdsB (op2, vs) o.c o.tm o.bs = !ba ∨ bt = false ∧ ba = false ∧ (holdsB (op2, vs) o.c o.tm o.bs = false ∨ op < 0 ∨ 7 < op)) ∧ t = [(0, .slice ar ps.length cr), (4, .pointer (some ⟨ga, 0, none⟩)), (5, .pointer (some ⟨gb, 0, none⟩)), (10, .bool bt), (11, .pointer (some ⟨gu, 0, none⟩))] ∧ H = [(gu, .cells #[I op2, .slice ur vs.length er] 28), (gb, .cells #[S o.k, S o.s, S o.n, I o.ver, S o.c, .bool o.tm, .bool o.bs, ov] 33), (ga, .cells #[I op, .slice ur vs.length er] 28)]) ?_ ?_ | refine aw_seq ?_ | ((first | apply ao_val | apply aq_val); exact wants_a; (first | exact ov_rem rfl rfl (by decide) | exact ov_add rfl rfl | exact ov_sub rfl rfl | exact ov_a); (exact rfl)) | refine zy ?_ | refine zon fun _ => ?_ | refine zoa fun vr lr hr => ?_ | ((first | apply ao_call | apply aq_call); exact wants_a; (first | exact oc_func rfl | exact oc_clos rfl rfl); (exact rfl); (first | exact fun w hw => f1 w hw.below | exact fun w hw => f3 w _ (lit_at hw cut_a (hu.below hw.below)) | exact fun w hw => f4 w hw.below | exact fun w hw => g1 w _ (lit_at hw cut_a (hu.below hw.below)))) | refine zoS (fun _ => ?_) (fun _ => ?_) | refine zqS (fun _ => ?_) (fun _ => ?_) | refine zwS (fun _ => ?_) (fun _ => ?_))
  · have hev : ¬ op.tmod 2 = 0 := by simpa using ‹(op.tmod 2 != 0) = true›
    exact ci_normal ⟨_, _, _, IntKind.i64.wrap (op - 1), by rw [hba, hbt]; exact sides vs o.c o.tm o.bs fun h => by rw [if_neg hev, Sx.wrap_i64 (by omega) (by omega)], rfl, rfl⟩ (by repeat (first | exact sub_nil | refine sub_cons rfl ?_)) hsub_a
  · have hev : op.tmod 2 = 0 := by simpa using ‹(op.tmod 2 != 0) = false›
    exact ci_normal ⟨_, _, _, IntKind.i64.wrap (op + 1), by rw [hba, hbt]; exact sides vs o.c o.tm o.bs fun h => by rw [if_pos hev, Sx.wrap_i64 (by omega) (by omega)], rfl, rfl⟩ (by repeat (first | exact sub_nil | refine sub_cons rfl ?_)) hsub_a
  rintro t H ⟨ga, gb, gu, op2, hs, rfl, rfl⟩
  clear f1 f3 f4 g1
  have g3 := fun w' (hb : Below w.heap.size w w') => pholds_ok op2 _ vs o.k o.s o.n o.ver o.c o.tm o.bs ov w3 w' (hu.below hb)
  generalize holdsB (op2, vs) o.c o.tm o.bs = bb at g3 hs
  repeat' (first | refine aw_cutI_at (id := 15) (fun t H => t = [(0, .slice ar ps.length cr), (4, .pointer (some ⟨ga, 0, none⟩)), (5, .pointer (some ⟨gb, 0, none⟩)), (12, .bool ba)] ∧ H = [(gb, .cells #[S o.k, S o.s, S o.n, I o.ver, S o.c, .bool o.tm, .bool o.bs, ov] 33), (ga, .cells #[I op, .slice ur vs.length er] 28)]) ?_ ?_ | refine aw_cutI_at2 (id := 15) (fun t H => t = [(0, .slice ar ps.length cr), (4, .pointer (some ⟨ga, 0, none⟩)), (5, .pointer (some ⟨gb, 0, none⟩)), (12, .bool ba)] ∧ H = [(gb, .cells #[S o.k, S o.s, S o.n, I o.ver, S o.c, .bool o.tm, .bool o.bs, ov] 33), (ga, .cells #[I op, .slice ur vs.length er] 28)]) ?_ ?_ | refine aw_seq ?_ | refine zz ?_ | refine zon fun _ => ?_ | refine zoa fun vr lr hr => ?_ | ((first | apply ao_call | apply aq_call); exact wants_a; (first | exact oc_func rfl | exact oc_clos rfl rfl); (exact rfl); (first | exact fun w hw => g2 w hw.below | exact fun w hw => g3 w hw.below)) | refine zoS (fun _ => ?_) (fun _ => ?_) | refine zqS (fun _ => ?_) (fun _ => ?_) | refine zwS (fun _ => ?_) (fun _ => ?_))
  all_goals first
    | exact ci_normal ⟨rfl, rfl⟩ (by repeat (first | exact sub_nil | refine sub_cons rfl ?_)) hsub_a
    | exact fun w' hw => (no_1 hs (by assumption) (by assumption)).elim
    | exact fun w' hw => (no_2 (b := bt) (by assumption) (by assumption)).elim
    | exact fun w' hw => (no_3 hs (by assumption) (by assumption)).elim
    | exact fun w' hw => (no_4 hs (by assumption) (by assumption) (by assumption) (by assumption)).elim
    | skip
  rintro t H ⟨rfl, rfl⟩
  clear g3 hs
  repeat' (first | refine aw_seq ?_ | refine zz ?_ | refine zon fun _ => ?_ | refine zoa fun vr lr hr => ?_ | refine zoS (fun _ => ?_) (fun _ => ?_) | refine zqS (fun _ => ?_) (fun _ => ?_) | refine zwS (fun _ => ?_) (fun _ => ?_))
  refine aw_for (t0 := [(0, .slice ar ps.length cr), (4, .pointer (some ⟨ga, 0, none⟩)), (5, .pointer (some ⟨gb, 0, none⟩)), (12, .bool ba), (14, .bool true), (15, I (0 : Nat))]) (fun q t H => ∃ (i : Nat) (b : Bool), q = ps.length - i ∧ i ≤ ps.length ∧ b = ((trms ps).take i).all (fun t => holdsB t o.c o.tm o.bs) ∧ t = [(0, .slice ar ps.length cr), (4, .pointer (some ⟨ga, 0, none⟩)), (5, .pointer (some ⟨gb, 0, none⟩)), (12, .bool ba), (14, .bool b), (15, I i)] ∧ H = [(gb, .cells #[S o.k, S o.s, S o.n, I o.ver, S o.c, .bool o.tm, .bool o.bs, ov] 33), (ga, .cells #[I op, .slice ur vs.length er] 28)]) ⟨0, true, rfl, by omega, rfl, rfl, rfl⟩ (by repeat (first | exact sub_nil | refine sub_cons rfl ?_)) ?_
  rintro q t H ⟨i, b, rfl, hi, hb, rfl, rfl⟩
  by_cases hlt : i < ps.length
  · obtain ⟨⟨x, op1, vs1⟩, he⟩ := getI hlt
    obtain ⟨g, o1, rfl, hg, hc⟩ := hat i _ (i : Int) he rfl
    have cA : ∀ (j : Nat) y, [I op1, x][j]? = some y → w.cell? ⟨g, o1 + (i : Int).toNat * 2 + j, none⟩ = some y := hc
    have hm := List.mem_of_getElem? he
    have hh := fun w' (hb : Below w.heap.size w w') => pholds_ok op1 x vs1 o.k o.s o.n o.ver o.c o.tm o.bs ov (w1.2 _ hm) w' ((hva.2 _ hm).below hb)
    have hsn := all_snoc (f := fun t => holdsB t o.c o.tm o.bs) he
    rw [← hb] at hsn
    clear hb
    cases b
    · repeat' (first | refine aw_seq ?_ | ((first | apply ao_val | apply aq_val); exact wants_a; (first | exact ov_load_oa rfl hg cA rfl | exact ov_a); (exact rfl)) | refine zy ?_ | refine zon fun _ => ?_ | refine zoa fun vr lr hr => ?_ | ((first | apply ao_call | apply aq_call); exact wants_a; (first | exact oc_func rfl | exact oc_clos rfl rfl); (exact rfl); (first | exact fun w hw => hh w hw.below)) | refine zoS (fun _ => ?_) (fun _ => ?_) | refine zqS (fun _ => ?_) (fun _ => ?_) | refine zwS (fun _ => ?_) (fun _ => ?_))
      exact lq_normal' ⟨i + 1, false, rfl, by omega, by rw [hsn, Bool.false_and], rfl, rfl⟩ (by omega) (by repeat (first | exact sub_nil | refine sub_cons rfl ?_)) hsub_a
    · repeat' (first | refine aw_seq ?_ | ((first | apply ao_val | apply aq_val); exact wants_a; (first | exact ov_load_oa rfl hg cA rfl | exact ov_a); (exact rfl)) | refine zy ?_ | refine zon fun _ => ?_ | refine zoa fun vr lr hr => ?_ | ((first | apply ao_call | apply aq_call); exact wants_a; (first | exact oc_func rfl | exact oc_clos rfl rfl); (exact rfl); (first | exact fun w hw => hh w hw.below)) | refine zoS (fun _ => ?_) (fun _ => ?_) | refine zqS (fun _ => ?_) (fun _ => ?_) | refine zwS (fun _ => ?_) (fun _ => ?_))
      exact lq_normal' ⟨i + 1, holdsB (op1, vs1) o.c o.tm o.bs, rfl, by omega, by rw [hsn, Bool.true_and], rfl, rfl⟩ (by omega) (by repeat (first | exact sub_nil | refine sub_cons rfl ?_)) hsub_a
  obtain rfl : i = ps.length := by omega
  rw [show (trms ps).take ps.length = trms ps by rw [← List.length_map (f := (·.2)), List.take_length]] at hb
  have hln := w1.1
  have hva1 := hva.1
  repeat' (first | (apply ao_nilh; exact hsub_a) | apply ao_nil | apply aq_nil | apply ah_end | ((first | apply ao_val | apply aq_val | (apply ah_take; (exact rfl))); exact wants_a; exact ov_a; (exact rfl)) | ((first | apply ao_skip | apply aq_skip | (apply ah_skip; (exact rfl))); exact nots_a; (exact rfl)) | (refine ao_is ?_; first | (apply ao_new; exact wants_a; exact on_a; (exact rfl); intro _) | (apply ao_store; exact wants_a; exact ow_a; exact upd_a) | (apply ao_valw; exact wants_a; exact ox_a; (exact rfl); exact upd_a) | (apply ao_skip0; exact nots_a) | (apply ao_append; exact wants_a; (exact rfl); assumption; (exact rfl); exact cut_a; exact has_a; (exact rfl); (exact rfl); omega; omega; omega; (exact rfl); intro vr lr hr)) | (apply ao_append_o; exact wants_a; exact rfl; exact RowB.lit0; exact rfl; exact hva1; exact rfl; exact cut_a; exact hfl; omega; omega; exact rfl; intro vr lr hr) | (apply ah_one; (exact rfl)) | (apply ah_two; (exact rfl); (exact rfl)) | (apply ah_three; (exact rfl); (exact rfl); (exact rfl)) | (refine aw_is ?_; first | refine aw_cutI_at (id := 21) (fun t H => ∃ v l, RowB 28 2 v l (0 + ps.length + 1) ([] ++ ps.flatMap cellsT ++ [I op, .slice ur vs.length er]) ∧ t = [(0, .slice ar ps.length cr), (5, .pointer (some ⟨gb, 0, none⟩)), (12, .bool ba), (14, .bool b), (16, v)] ∧ H = l ++ [(gb, .cells #[S o.k, S o.s, S o.n, I o.ver, S o.c, .bool o.tm, .bool o.bs, ov] 33), (ga, .cells #[I op, .slice ur vs.length er] 28)]) ?_ ?_ | refine aw_cutI_at2 (id := 21) (fun t H => ∃ v l, RowB 28 2 v l (0 + ps.length + 1) ([] ++ ps.flatMap cellsT ++ [I op, .slice ur vs.length er]) ∧ t = [(0, .slice ar ps.length cr), (5, .pointer (some ⟨gb, 0, none⟩)), (12, .bool ba), (14, .bool b), (16, v)] ∧ H = l ++ [(gb, .cells #[S o.k, S o.s, S o.n, I o.ver, S o.c, .bool o.tm, .bool o.bs, ov] 33), (ga, .cells #[I op, .slice ur vs.length er] 28)]) ?_ ?_ | (apply aw_held (id := 20) (pl := (.t 1 (.t 3 (.w 0 (.w 2 (.o 4 (.o 5 (.t 6 .e))) 4 (.o 2 (.o 5 (.t 6 .e)))) 4 (.o 0 (.o 2 (.o 5 (.t 6 .e)))))))); (kernel_rfl); (kernel_rfl); (kernel_rfl); (solve | (exact List.Sublist.refl _))) | refine aw_seq ?_ | refine aw_block ?_ | refine aw_region ?_ | refine aw_skip ?_ | refine aw_exit ?_ | refine aw_ret ?_ | refine aw_label ?_ | refine aw_scope ?_ | refine aw_cond_t rfl (by with_reducible rfl) ?_ | refine aw_cond_f rfl (by with_reducible rfl) ?_ | refine aw_draw (by kernel_rfl) (by kernel_rfl) ?_) | (first | (refine ah_is ?_; (fail_if_success first | refine ah_glit (b := true) rfl rfl rfl (by with_reducible rfl) ?_ | refine ah_glit (b := false) rfl rfl rfl (by with_reducible rfl) ?_); apply ah_gt; (exact rfl); (exact rfl); (exact rfl); exact t_a) | ((refine ao_is ?_; (fail_if_success first | refine ao_glit (b := true) rfl rfl (by with_reducible rfl) ?_ | refine ao_glit (b := false) rfl rfl (by with_reducible rfl) ?_)); apply ao_gt; (exact rfl); (exact rfl); exact t_a) | ((refine aq_is ?_; (fail_if_success first | refine aq_glit (b := true) rfl rfl (by with_reducible rfl) ?_ | refine aq_glit (b := false) rfl rfl (by with_reducible rfl) ?_)); apply aq_gt; (exact rfl); (exact rfl); exact t_a) | (apply aw_ct; (exact rfl); exact t_a)) | (first | (refine ah_is ?_; (fail_if_success first | refine ah_glit (b := true) rfl rfl rfl (by with_reducible rfl) ?_ | refine ah_glit (b := false) rfl rfl rfl (by with_reducible rfl) ?_); apply ah_gf; (exact rfl); (exact rfl); (exact rfl); exact f_a) | ((refine ao_is ?_; (fail_if_success first | refine ao_glit (b := true) rfl rfl (by with_reducible rfl) ?_ | refine ao_glit (b := false) rfl rfl (by with_reducible rfl) ?_)); apply ao_gf; (exact rfl); (exact rfl); exact f_a) | ((refine aq_is ?_; (fail_if_success first | refine aq_glit (b := true) rfl rfl (by with_reducible rfl) ?_ | refine aq_glit (b := false) rfl rfl (by with_reducible rfl) ?_)); apply aq_gf; (exact rfl); (exact rfl); exact f_a) | (apply aw_cf; (exact rfl); exact f_a)) | refine at_normal ?_ | refine at_exit ?_ | refine at_ret ?_ | refine ib_normal ?_ | refine ib_exit ?_ | refine ib_other ?_ | refine ib_ret ?_ | refine lq_exit ?_ | refine lq_ret ?_ | refine ci_ret ?_ | refine ci_exit ?_ | refine r1_ret rfl ?_ | refine r1_normal rfl ?_ | refine r2_ret rfl rfl ?_ | refine r2_normal rfl rfl ?_ | refine r3_ret rfl rfl rfl ?_ | refine r3_normal rfl rfl rfl ?_ | refine ng_normal ?_ | refine ng_exit ?_ | refine ng_ret ?_ | (apply rt_ret; (exact rfl); (exact rfl); (exact rfl); exact has_a; exact has_a; (exact rfl); (exact rfl)) | (apply rc1_ret; (exact rfl); exact has_a; (exact rfl)) | (apply rc2_ret; (exact rfl); exact has_a; (exact rfl); (exact rfl)) | (refine ao_is ?_; (fail_if_success first | refine ao_glit (b := true) rfl rfl (by with_reducible rfl) ?_ | refine ao_glit (b := false) rfl rfl (by with_reducible rfl) ?_); refine ao_gbool rfl rfl (fun _ => ?_) (fun _ => ?_)) | (refine aq_is ?_; (fail_if_success first | refine aq_glit (b := true) rfl rfl (by with_reducible rfl) ?_ | refine aq_glit (b := false) rfl rfl (by with_reducible rfl) ?_); refine aq_gbool rfl rfl (fun _ => ?_) (fun _ => ?_)) | (refine aw_is ?_; refine aw_cond rfl (fun _ => ?_) (fun _ => ?_)))
  all_goals first | exact ci_normal ⟨_, _, by assumption, rfl, rfl⟩ (by repeat (first | exact sub_nil | refine sub_cons rfl ?_)) hsub_a | skip
  rintro t H ⟨v, l, hrow, rfl, rfl⟩
  have hrow2 : RowB 28 2 v l (ps ++ [((.slice ur vs.length er : Value), op, vs)]).length ((ps ++ [((.slice ur vs.length er : Value), op, vs)]).flatMap cellsT) := by
    rw [Nat.zero_add, List.nil_append] at hrow
    exact scp_snoc hrow
  have w4 : wfP (ps ++ [((.slice ur vs.length er : Value), op, vs)]) := ⟨by rw [List.length_append, List.length_singleton]; omega, fun p hp => by
    rcases List.mem_append.1 hp with hp | hp
    · exact w1.2 p hp
    · rw [List.mem_singleton.1 hp]; exact w3⟩
  have g5 := fun w' (hb : Below w.heap.size w w') => pmatch_ok _ ps o.k o.s o.n o.ver o.c o.tm o.bs ov w1 w' (hva.below hb)
  have g6 := fun w' (hb : Below w.heap.size w w') => pright_ok _ ps w1 w' (hva.below hb)
  have g7 := fun w' (hb : Below w.heap.size w w') (h : OldRow w' 2 v (ps ++ [((.slice ur vs.length er : Value), op, vs)]).length ((ps ++ [((.slice ur vs.length er : Value), op, vs)]).flatMap cellsT)) => pmatch_ok v _ o.k o.s o.n o.ver o.c o.tm o.bs ov w4 w' ⟨h, fun p hp => by
    rcases List.mem_append.1 hp with hp | hp
    · exact (hva.2 p hp).below hb
    · rw [List.mem_singleton.1 hp]; exact hu.below hb⟩
  have w0 : wfP [] := ⟨by simp, fun p hp => by cases hp⟩
  have g8 := fun (w' : World) => pmatch_ok (.slice none 0 0) [] o.k o.s o.n o.ver o.c o.tm o.bs ov w0 w' ⟨OldRow.nil, fun p hp => by cases hp⟩
  rw [show matchS (trms []) o.c o.tm o.bs = true from rfl] at g8
  rw [show trms (ps ++ [((.slice ur vs.length er : Value), op, vs)]) = trms ps ++ [(op, vs)] from List.map_append] at g7
  have hM : matchS (trms ps) o.c o.tm o.bs = (b && rightS (trms ps)) := by rw [hb]; rfl
  have hsn := match_snoc (ts := trms ps) (t := (op, vs)) (c := o.c) (tm := o.tm) (bs := o.bs)
  rw [← hba, hM] at hsn
  rw [hM] at g5
  generalize matchS (trms ps ++ [(op, vs)]) o.c o.tm o.bs = m2 at g7 hsn
  generalize rightS (trms ps) = rs at g5 g6 hsn
  clear hb hba hM hrow
  cases m2
  · cases b
    · rw [Bool.false_and] at g5
      repeat' (first | refine aw_seq ?_ | refine zz ?_ | refine zon fun _ => ?_ | refine zoa fun vr lr hr => ?_ | ((first | apply ao_call | apply aq_call); exact wants_a; (first | exact oc_func rfl | exact oc_clos rfl rfl); (exact rfl); (first | exact fun w hw => g5 w hw.below | exact fun w hw => g6 w hw.below | exact fun w hw => g7 w hw.below (hw.oldr hrow2 cut_a) | exact fun w hw => g8 w | exact fun w hw => alive_ok w (hG.below hw.below))) | refine zoS (fun _ => ?_) (fun _ => ?_) | refine zqS (fun _ => ?_) (fun _ => ?_) | refine zwS (fun _ => ?_) (fun _ => ?_))
      exact fun w' hw => ⟨rfl, hw.below⟩
    · rw [Bool.true_and] at g5
      have q1 : (!(rs == rs)) = false := by simp
      repeat' (first | refine aw_seq ?_ | refine zz ?_ | refine zon fun _ => ?_ | refine zoa fun vr lr hr => ?_ | ((first | apply ao_call | apply aq_call); exact wants_a; (first | exact oc_func rfl | exact oc_clos rfl rfl); (exact rfl); (first | exact fun w hw => g5 w hw.below | exact fun w hw => g6 w hw.below | exact fun w hw => g7 w hw.below (hw.oldr hrow2 cut_a) | exact fun w hw => g8 w | exact fun w hw => alive_ok w (hG.below hw.below))) | refine zoS (fun _ => ?_) (fun _ => ?_) | refine zqS (fun _ => ?_) (fun _ => ?_) | refine zwS (fun _ => ?_) (fun _ => ?_))
      exact fun w' hw => ⟨rfl, hw.below⟩
  · obtain ⟨h5, rfl⟩ := hsn rfl
    rw [Bool.and_eq_true] at h5
    obtain ⟨rfl, rfl⟩ := h5
    repeat' (first | refine aw_seq ?_ | refine zz ?_ | refine zon fun _ => ?_ | refine zoa fun vr lr hr => ?_ | ((first | apply ao_call | apply aq_call); exact wants_a; (first | exact oc_func rfl | exact oc_clos rfl rfl); (exact rfl); (first | exact fun w hw => g5 w hw.below | exact fun w hw => g6 w hw.below | exact fun w hw => g7 w hw.below (hw.oldr hrow2 cut_a) | exact fun w hw => g8 w | exact fun w hw => alive_ok w (hG.below hw.below))) | refine zoS (fun _ => ?_) (fun _ => ?_) | refine zqS (fun _ => ?_) (fun _ => ?_) | refine zwS (fun _ => ?_) (fun _ => ?_))
    exact fun w' hw => ⟨rfl, hw.below⟩
end Scp
end Go.Proofs.YtlokhemlpmalaaaDoor
