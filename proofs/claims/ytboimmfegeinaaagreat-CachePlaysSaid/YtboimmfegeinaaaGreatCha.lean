/- What the document's answer for layer 8 does: an event is applied; conditions: names of at most 1,000 bytes, at most 1,000 objects. -/
import Derived.Test.YtboimmfegeinaaaGreatChn
import Derived.Test.YtboimmfegeinaaaGreatChd
namespace Go.Proofs.YtboimmfegeinaaaGreat
namespace Chm
open Go Go.RowKit Sx Lab Vec Ojt Evt
attribute [local irreducible] Go.Calls

theorem callsH2 {P : Program} {B m : Nat} {w0 : World} {f : FuncId} {fn : Func} {c : Code} {args : List Value} {n r s : Nat} {H : Hp} {K : Value → Hp → Prop}
    (hf : P.funcs[f]? = some fn) (hb : fn.body = some c) (hn : fn.ntmps = n) (hl : Nat.ble args.length n = true) (hr : fn.results = #[.tmp r, .tmp s])
    (h : aw P ⟨B, w0, n⟩ c (ret2 r s fun v u H' => ∃ H2 H1 : Hp, H2.Sublist H' ∧ H2.Perm H1 ∧ K (.tuple #[v, u]) H1) (tm0 args) H) : CallsH P ⟨B, w0, m⟩ f args H K := by
  intro w hh
  refine calls_of_wp hf hb ?_
  rw [hn]
  unfold aw at h
  refine Code.wp_mono (fun e a w' hq => ?_) (h { tmps := args.toArray ++ Array.replicate (n - args.toArray.size) undef, defers := [] } w (repT_start (B := B) (w0 := w0) args (by simpa [Nat.ble_eq] using hl)) hh.env)
  obtain ⟨t', H', r1, r2, q⟩ := hq
  unfold ret2 at q
  cases e with
  | normal =>
    obtain ⟨v, u, h1, h2, H2, H1, hs, hp, hk⟩ := q
    exact ⟨r1.1, _, by rw [results_tmp2 hr, r1.2.2 r v h1, r1.2.2 s u h2], _, H1, rfl, ((r2.sub hs).perm hp).env, hk⟩
  | ret =>
    obtain ⟨v, u, h1, h2, H2, H1, hs, hp, hk⟩ := q
    exact ⟨r1.1, _, by rw [results_tmp2 hr, r1.2.2 r v h1, r1.2.2 s u h2], _, H1, rfl, ((r2.sub hs).perm hp).env, hk⟩
  | exit _ => exact q.elim
  | goto _ => exact q.elim
  | panic _ => exact q.elim
  | outgrown => exact q.elim

theorem chAt_of {n : Nat} {w0 w : World} {H R1 R2 lo lg : Hp} {gc : Nat} {v u : Value} {ps : List PO} {gs : List Gr} {fl : Int} (h : RepH ⟨w0.heap.size, w0, n⟩ H w) (hb : Has H gc (.cells #[v, u, I fl] 31 (0, 0)))
    (hlo : RowB 36 8 v lo ps.length (ps.flatMap cellsO)) (c1 : Cut H lo R1) (hlg : RowB 73 4 u lg gs.length (gs.flatMap cellsG)) (c2 : Cut H lg R2) (hres : ∀ p ∈ ps, ResAt w0 p.1 p.2.rs) : ChAt w gc v ps u gs fl := by
  have hg := (h.has hb).2
  have hg2 : w.heap[gc]? = some (.cells (List.toArray [v, u, I fl]) 31 (0, 0)) := hg
  exact ⟨(Array.getElem?_eq_some_iff.1 hg).1, by rw [cell_of hg2]; rfl, by rw [cell_of hg2]; rfl, by rw [cell_of hg2]; rfl, objs_old h hlo c1 fun p hp => (hres p hp).below h.below, h.oldr hlg c2⟩

/-- What is known of an event's key, or the floor. -/
def lowP (ps : List PO) (gs : List Gr) (fl : Int) (kind : Int) (p : PO) : Int := if kind = 0 ∨ kind = 1 then knownC ps gs fl (keyO p.2) else fl
def apP (ps : List PO) (gs : List Gr) (fl : Int) (kind : Int) (p : PO) (ver : Int) (qs : List PO) : Int × List PD × (List PO × List Gr × Int) :=
  if rightE kind p.2 ver (obs qs) = false then (1, [], (ps, gs, fl))
  else if (versE kind p.2 ver (obs qs)).1 ≤ lowP ps gs fl kind p then (6, [], (ps, gs, fl))
  else if 1000 < (nxP ps gs fl kind p ver qs).1.length then (3, [], (ps, gs, fl))
  else (0, dlP ps (nxP ps gs fl kind p ver qs).1, nxP ps gs fl kind p ver qs)
abbrev stP (x : List PO × List Gr × Int) : St := ⟨obs x.1, x.2.1, x.2.2⟩
theorem apP_obs (ps : List PO) (gs : List Gr) (fl : Int) (kind : Int) (p : PO) (ver : Int) (qs : List PO) :
    apO ⟨obs ps, gs, fl⟩ kind p.2 ver (obs qs) = ((apP ps gs fl kind p ver qs).1, (apP ps gs fl kind p ver qs).2.1.map deD, stP (apP ps gs fl kind p ver qs).2.2) := by
  have hlow : lowO ⟨obs ps, gs, fl⟩ kind p.2 = lowP ps gs fl kind p := by
    unfold lowO lowP
    rw [knO_obs]
  unfold apO apP
  rw [hlow, nxP_obs]
  simp only [obs_len]
  by_cases h1 : rightE kind p.2 ver (obs qs) = false
  · rw [if_pos h1, if_pos h1]; rfl
  rw [if_neg h1, if_neg h1]
  by_cases h2 : (versE kind p.2 ver (obs qs)).1 ≤ lowP ps gs fl kind p
  · rw [if_pos h2, if_pos h2]; rfl
  rw [if_neg h2, if_neg h2]
  by_cases h3 : 1000 < (nxP ps gs fl kind p ver qs).1.length
  · rw [if_pos h3, if_pos h3]; rfl
  rw [if_neg h3, if_neg h3, dlP_is]
theorem nxP_mem {ps : List PO} {gs : List Gr} {fl : Int} {kind : Int} {p : PO} {ver : Int} {qs : List PO} : ∀ q ∈ (nxP ps gs fl kind p ver qs).1, q ∈ ps ∨ q = p ∨ q ∈ qs := by
  intro q hq
  unfold nxP at hq
  repeat' split at hq
  · exact (withP_mem hq).imp id .inl
  · exact .inl (List.mem_filter.1 hq).1
  · exact (rlP_mem.1 q hq).imp id .inr
  · exact .inl hq
theorem nxP_len {ps : List PO} {gs : List Gr} {fl : Int} {kind : Int} {p : PO} {ver : Int} {qs : List PO} : (nxP ps gs fl kind p ver qs).1.length ≤ ps.length + qs.length + 1 ∧ (nxP ps gs fl kind p ver qs).2.1.length ≤ gs.length + 1 := by
  have h1 : ∀ k f, (gravesP gs k f).length ≤ gs.length := fun k f => List.length_filter_le _ _
  unfold nxP
  repeat' split
  · have := withP_len (ps := ps) (p := p)
    have := h1 (keyO p.2) fl
    simp only; omega
  · have h2 : (withoutP ps (keyO p.2)).length ≤ ps.length := List.length_filter_le _ _
    have := h1 (keyO p.2) fl
    simp only [insG_len]; omega
  · have := (rlP_mem (ps := ps) (gs := gs) (fl := fl) (qs := qs) (ver := ver)).2
    have := h1 k0 ver
    simp only; omega
  · have := h1 k0 ver
    simp only; omega

/-- What an event leaves: what it hands back, and the cache. -/
def Applied (gc : Nat) (x : Int × List PD × (List PO × List Gr × Int)) (R : Hp) (r : Value) (H' : Hp) : Prop :=
  ∃ v u rd lo lg ld, r = .tuple #[rd, I x.1] ∧ H' = (gc, .cells #[v, u, I x.2.2.2.2] 31 (0, 0)) :: (lo ++ (lg ++ (ld ++ R))) ∧ RowB 36 8 v lo x.2.2.1.length (x.2.2.1.flatMap cellsO) ∧ RowB 73 4 u lg x.2.2.2.1.length (x.2.2.2.1.flatMap cellsG) ∧
    RowB 57 21 rd ld x.2.1.length (x.2.1.flatMap cellsD)

theorem permD {α : Type} (x : α) (a b d R : List α) : (d ++ (a ++ (b ++ (x :: R)))).Perm (x :: (a ++ (b ++ (d ++ R)))) := by
  have h1 : (d ++ (a ++ (b ++ (x :: R)))).Perm (x :: (d ++ (a ++ (b ++ R)))) := by
    have := List.perm_middle (l₁ := d ++ a ++ b) (a := x) (l₂ := R)
    simpa only [List.append_assoc] using this
  refine h1.trans (List.Perm.cons x ?_)
  rw [← List.append_assoc a, ← List.append_assoc a, ← List.append_assoc d, ← List.append_assoc (a ++ b)]
  exact List.Perm.append_right R List.perm_append_comm
theorem permE {α : Type} (x : α) (a b d R : List α) : (d ++ (b ++ (x :: (a ++ R)))).Perm (x :: (a ++ (b ++ (d ++ R)))) := by
  have h1 : (d ++ (b ++ (x :: (a ++ R)))).Perm (x :: (d ++ (b ++ (a ++ R)))) := by
    have := List.perm_middle (l₁ := d ++ b) (a := x) (l₂ := a ++ R)
    simpa only [List.append_assoc] using this
  refine h1.trans (List.Perm.cons x ?_)
  have h2 : (d ++ (b ++ (a ++ R))).Perm (d ++ (a ++ (b ++ R))) := List.Perm.append_left d (by rw [← List.append_assoc, ← List.append_assoc]; exact List.Perm.append_right R List.perm_append_comm)
  refine h2.trans ?_
  rw [← List.append_assoc a, ← List.append_assoc a, ← List.append_assoc d, ← List.append_assoc (a ++ b)]
  exact List.Perm.append_right R List.perm_append_comm
theorem sub3 {α : Type} (x y : α) (a b H : List α) : H.Sublist (x :: (a ++ (b ++ (y :: H)))) :=
  List.Sublist.cons _ (((List.Sublist.cons _ (List.Sublist.refl _)).trans (List.sublist_append_right b _)).trans (List.sublist_append_right a _))
theorem sub4 {α : Type} (x y : α) (b H : List α) : H.Sublist (x :: (b ++ (y :: H))) :=
  List.Sublist.cons _ ((List.Sublist.cons _ (List.Sublist.refl _)).trans (List.sublist_append_right b _))
set_option maxHeartbeats 64000000 in
theorem rapply_ok {m : Nat} {w0 : World} (gc : Nat) (v : Value) (ps : List PO) (u : Value) (gs : List Gr) (fl : Int) (lo lg : Hp) (kind : Int) (p : PO) (ver : Int) (v2 : Value) (qs : List PO) (hw1 : wfL ps) (hwo : wfS p.2) (hw2 : wfL qs) (hwg : wfG gs) (hl : ps.length ≤ 1000) (hl3 : qs.length ≤ 1000)
    (hlo : RowB 36 8 v lo ps.length (ps.flatMap cellsO)) (hlg : RowB 73 4 u lg gs.length (gs.flatMap cellsG)) (hres : ∀ p ∈ ps, ResAt w0 p.1 p.2.rs) (ho : ResAt w0 p.1 p.2.rs) (hv2 : ObjsAt w0 v2 qs) (R : Hp) :
    CallsH Tryz.prog ⟨w0.heap.size, w0, m⟩ 8 [.pointer (some ⟨gc, 0, none⟩), EV kind p ver v2] ((gc, .cells #[v, u, I fl] 31 (0, 0)) :: (lo ++ (lg ++ R))) (Applied gc (apP ps gs fl kind p ver qs) R) := by
  have hgl := hwg.1
  have hvs := fun w' (hb : Below w0.heap.size w0 w') => rversion_ok kind p ver v2 qs hwo hw2 w' (ho.below hb) (hv2.below hb)
  have hkn := fun w' (h : ChAt w' gc v ps u gs fl) => rknown_ok gc v ps u gs fl (keyO p.2) (by omega) (by omega) w' h
  have hnx := fun w' (hb : Below w0.heap.size w0 w') (h : ChAt w' gc v ps u gs fl) => rnext_ok gc v ps u gs fl kind p ver v2 qs hw1 hwo hw2 hwg (by omega) w' h (ho.below hb) (hv2.below hb)
  obtain ⟨ea, ec, hx⟩ := ho.len
  obtain ⟨a2, c2, hx2⟩ := hv2.1.len
  obtain ⟨a, c, hx3⟩ := hlo.len
  obtain ⟨au, cu, hx4⟩ := hlg.len
  obtain ⟨x, o⟩ := p
  simp only at hx hwo hkn
  subst hx hx2 hx3 hx4
  refine callsH2 (args := [.pointer (some ⟨gc, 0, none⟩), EV kind (.slice ea o.rs.length ec, o) ver (.slice a2 qs.length c2)]) Tryz.func8 rfl rfl rfl rfl ?_
  unfold apP
  unfold versE at hvs
  simp only at hvs ⊢
  by_cases hright : rightE kind o ver (obs qs) = false
  · rw [if_pos hright]
    rw [hright, if_neg (by decide)] at hvs
    repeat' (first | refine aw_seq ?_ | ((first | apply ao_val | apply aq_val); exact wants_a; (first | exact ov_nilcheck rfl | exact ov_a); (exact rfl)) | refine zy ?_ | refine zon fun _ => ?_ | refine zoa fun vr lr hr => ?_ | ((first | apply ao_call | apply aq_call); exact wants_a; (first | exact oc_func rfl | exact oc_clos rfl rfl); (exact rfl); (first | exact fun w hw => hvs w hw.below)) | refine zoS (fun _ => ?_) (fun _ => ?_) | refine zqS (fun _ => ?_) (fun _ => ?_) | refine zwS (fun _ => ?_) (fun _ => ?_))
    exact ⟨_, _, List.Sublist.cons _ (List.Sublist.refl _), List.Perm.refl _, _, _, _, lo, lg, [], rfl, rfl, hlo, hlg, RowB.nil⟩
  · rw [if_neg hright]
    have hright2 : rightE kind o ver (obs qs) = true := by simpa using hright
    rw [hright2, if_pos rfl] at hvs
    have hve : (versE kind o ver (obs qs)).1 = if kind = 0 ∨ kind = 1 then o.ver else ver := vers_is hright2
    rw [hve]
    generalize hV : (if kind = 0 ∨ kind = 1 then o.ver else ver) = V at hvs
    repeat' (first | refine aw_cutI_at (id := 7) (fun t H => ∃ ge, t = [(0, .pointer (some ⟨gc, 0, none⟩)), (3, .pointer (some ⟨ge, 0, none⟩)), (6, I V), (8, I (lowP ps gs fl kind (.slice ea o.rs.length ec, o)))] ∧ H = (ge, .cells #[I kind, S o.k, S o.s, S o.n, I o.ver, S o.c, .bool o.tm, .bool o.bs, .slice ea o.rs.length ec, I ver, .slice a2 qs.length c2] 39) :: (gc, .cells #[.slice a ps.length c, .slice au gs.length cu, I fl] 31 (0, 0)) :: (lo ++ (lg ++ R))) ?_ ?_ | refine aw_cutI_at2 (id := 7) (fun t H => ∃ ge, t = [(0, .pointer (some ⟨gc, 0, none⟩)), (3, .pointer (some ⟨ge, 0, none⟩)), (6, I V), (8, I (lowP ps gs fl kind (.slice ea o.rs.length ec, o)))] ∧ H = (ge, .cells #[I kind, S o.k, S o.s, S o.n, I o.ver, S o.c, .bool o.tm, .bool o.bs, .slice ea o.rs.length ec, I ver, .slice a2 qs.length c2] 39) :: (gc, .cells #[.slice a ps.length c, .slice au gs.length cu, I fl] 31 (0, 0)) :: (lo ++ (lg ++ R))) ?_ ?_ | refine aw_seq ?_ | ((first | apply ao_val | apply aq_val); exact wants_a; (first | exact ov_nilcheck rfl | exact ov_a); (exact rfl)) | refine zy ?_ | refine zon fun _ => ?_ | refine zoa fun vr lr hr => ?_ | ((first | apply ao_call | apply aq_call); exact wants_a; (first | exact oc_func rfl | exact oc_clos rfl rfl); (exact rfl); (first | exact fun w hw => hvs w hw.below)))
    · by_cases e0 : kind = 0
      · subst e0
        repeat' (first | refine aw_seq ?_ | ((first | apply ao_val | apply aq_val); exact wants_a; (first | exact ov_nilcheck rfl | exact ov_a); (exact rfl)) | refine zy ?_ | refine zon fun _ => ?_ | refine zoa fun vr lr hr => ?_ | ((first | apply ao_call | apply aq_call); exact wants_a; (first | exact oc_func rfl | exact oc_clos rfl rfl); (exact rfl); (first | exact fun w hw => hkn w (chAt_of hw has_a hlo cut_a hlg cut_a hres))) | refine zoS (fun _ => ?_) (fun _ => ?_) | refine zqS (fun _ => ?_) (fun _ => ?_) | refine zwS (fun _ => ?_) (fun _ => ?_))
        exact ci_normal ⟨_, rfl, rfl⟩ (by repeat (first | exact sub_nil | refine sub_cons rfl ?_)) hsub_a
      · by_cases e1 : kind = 1
        · subst e1
          repeat' (first | refine aw_seq ?_ | ((first | apply ao_val | apply aq_val); exact wants_a; (first | exact ov_nilcheck rfl | exact ov_a); (exact rfl)) | refine zy ?_ | refine zon fun _ => ?_ | refine zoa fun vr lr hr => ?_ | ((first | apply ao_call | apply aq_call); exact wants_a; (first | exact oc_func rfl | exact oc_clos rfl rfl); (exact rfl); (first | exact fun w hw => hkn w (chAt_of hw has_a hlo cut_a hlg cut_a hres))) | refine zoS (fun _ => ?_) (fun _ => ?_) | refine zqS (fun _ => ?_) (fun _ => ?_) | refine zwS (fun _ => ?_) (fun _ => ?_))
          exact ci_normal ⟨_, rfl, rfl⟩ (by repeat (first | exact sub_nil | refine sub_cons rfl ?_)) hsub_a
        · rw [show lowP ps gs fl kind ((.slice ea o.rs.length ec : Value), o) = fl by unfold lowP; rw [if_neg fun h => h.elim e0 e1]]
          repeat' (first | refine aw_seq ?_ | ((first | apply ao_val | apply aq_val); exact wants_a; (first | exact ov_nilcheck rfl | exact ov_a); (exact rfl)) | refine zy ?_ | refine zon fun _ => ?_ | refine zoa fun vr lr hr => ?_ | refine zoS (fun _ => ?_) (fun _ => ?_) | refine zqS (fun _ => ?_) (fun _ => ?_) | refine zwS (fun _ => ?_) (fun _ => ?_))
          exact ci_normal ⟨_, rfl, rfl⟩ (by repeat (first | exact sub_nil | refine sub_cons rfl ?_)) hsub_a
    rintro t H ⟨ge, rfl, rfl⟩
    by_cases hvk : V ≤ lowP ps gs fl kind (.slice ea o.rs.length ec, o)
    · rw [if_pos hvk]
      repeat' (first | refine aw_seq ?_ | refine zz ?_ | refine zon fun _ => ?_ | refine zoa fun vr lr hr => ?_ | refine zoS (fun _ => ?_) (fun _ => ?_) | refine zqS (fun _ => ?_) (fun _ => ?_) | refine zwS (fun _ => ?_) (fun _ => ?_))
      exact ⟨_, _, List.Sublist.cons _ (List.Sublist.refl _), List.Perm.refl _, _, _, _, lo, lg, [], rfl, rfl, hlo, hlg, RowB.nil⟩
    · rw [if_neg hvk]
      have hnm := nxP_mem (ps := ps) (gs := gs) (fl := fl) (kind := kind) (p := (.slice ea o.rs.length ec, o)) (ver := ver) (qs := qs)
      have hnl := (nxP_len (ps := ps) (gs := gs) (fl := fl) (kind := kind) (p := (.slice ea o.rs.length ec, o)) (ver := ver) (qs := qs)).1
      generalize nxP ps gs fl kind ((.slice ea o.rs.length ec : Value), o) ver qs = X at hnx hnm hnl
      obtain ⟨ps2, gs2, fl2⟩ := X
      simp only at hnm hnl
      have hres2 : ∀ p ∈ ps2, ResAt w0 p.1 p.2.rs := fun p hp => by
        rcases hnm p hp with h | rfl | h
        · exact hres p h
        · exact ho
        · exact hv2.2 p h
      have hw3 : wfL ps2 := ⟨by omega, fun p hp => by
        rcases hnm p hp with h | rfl | h
        · exact hw1.2 p h
        · exact hwo
        · exact hw2.2 p h⟩
      repeat' (first | refine aw_seq ?_ | ((first | apply ao_val | apply aq_val); exact wants_a; (first | exact ov_nilcheck rfl | exact ov_a); (exact rfl)) | refine zy ?_ | refine zon fun _ => ?_ | refine zoa fun vr lr hr => ?_ | (apply ao_callD; exact wants_a; (exact oc_func rfl); (exact rfl); (first | exact fun w hw => hnx w hw.below (chAt_of hw has_a hlo cut_a hlg cut_a hres)); intro vr lr hr) | refine zoS (fun _ => ?_) (fun _ => ?_) | refine zqS (fun _ => ?_) (fun _ => ?_) | refine zwS (fun _ => ?_) (fun _ => ?_))
      revert vr lr hr
      rintro _ _ ⟨b, v1, u1, lo1, lg1, rfl, rfl, hro, hrg⟩
      simp only at hro hrg
      obtain ⟨xg, yg, hzg⟩ := hrg.len
      subst hzg
      rcases hro with hro | ⟨rfl, rfl, rfl⟩
      · obtain ⟨xo, yo, hzo⟩ := hro.len
        subst hzo
        simp only [List.cons_append, List.append_assoc]
        by_cases hfull : 1000 < ps2.length
        · rw [if_pos hfull]
          repeat' (first | refine aw_seq ?_ | ((first | apply ao_val | apply aq_val); exact wants_a; (first | exact ov_nilcheck rfl | exact ov_a); (exact rfl)) | refine zy ?_ | refine zon fun _ => ?_ | refine zoa fun vr lr hr => ?_ | refine zoS (fun _ => ?_) (fun _ => ?_) | refine zqS (fun _ => ?_) (fun _ => ?_) | refine zwS (fun _ => ?_) (fun _ => ?_))
          exact ⟨_, _, sub3 _ _ _ _ _, List.Perm.refl _, _, _, _, lo, lg, [], rfl, rfl, hlo, hlg, RowB.nil⟩
        · rw [if_neg hfull]
          have hdl := fun w' (h1 : ObjsAt w' _ ps) (h2 : ObjsAt w' _ ps2) => rdeltas_ok (.slice a ps.length c) (.slice xo ps2.length yo) ps ps2 hw1 hw3 (by omega) (by omega) w' h1 h2
          repeat' (first | (apply ao_nilh; exact hsub_a) | apply ao_nil | apply aq_nil | apply ah_end | ((first | apply ao_val | apply aq_val | (apply ah_take; (exact rfl))); exact wants_a; (first | exact ov_nilcheck rfl | exact ov_a); (exact rfl)) | ((first | apply ao_skip | apply aq_skip | (apply ah_skip; (exact rfl))); exact nots_a; (exact rfl)) | (refine ao_is ?_; first | (apply ao_new; exact wants_a; exact on_a; (exact rfl); intro _) | (apply ao_store; exact wants_a; exact ow_a; exact upd_a) | (apply ao_valw; exact wants_a; exact ox_a; (exact rfl); exact upd_a) | (apply ao_skip0; exact nots_a) | (apply ao_append; exact wants_a; (exact rfl); assumption; (exact rfl); exact cut_a; exact has_a; (exact rfl); (exact rfl); omega; omega; omega; (exact rfl); intro vr lr hr)) | ((apply ao_callr; exact wants_a; (exact oc_func rfl); (exact rfl); (intro w hw; refine hdl w ?_ ?_; exact objs_old hw hlo cut_a (fun p hp => (hres p hp).below hw.below); exact objs_old hw hro cut_a (fun p hp => (hres2 p hp).below hw.below)); intro v5 l5 r5)) | (apply ah_one; (exact rfl)) | (apply ah_two; (exact rfl); (exact rfl)) | (apply ah_three; (exact rfl); (exact rfl); (exact rfl)) | (refine aw_is ?_; first | (apply aw_held (id := 12) (pl := (.t 0 (.t 1 (.t 2 (.t 3 (.t 4 (.t 5 (.t 6 (.t 7 (.o 8 (.t 9 .e))))))))))); (kernel_rfl); (kernel_rfl); (kernel_rfl); (solve | (exact List.Sublist.refl _))) | refine aw_seq ?_ | refine aw_block ?_ | refine aw_region ?_ | refine aw_skip ?_ | refine aw_exit ?_ | refine aw_ret ?_ | refine aw_label ?_ | refine aw_scope ?_ | refine aw_cond_t rfl (by with_reducible rfl) ?_ | refine aw_cond_f rfl (by with_reducible rfl) ?_ | refine aw_draw (by kernel_rfl) (by kernel_rfl) ?_) | (first | (refine ah_is ?_; (fail_if_success first | refine ah_glit (b := true) rfl rfl rfl (by with_reducible rfl) ?_ | refine ah_glit (b := false) rfl rfl rfl (by with_reducible rfl) ?_); apply ah_gt; (exact rfl); (exact rfl); (exact rfl); exact t_a) | ((refine ao_is ?_; (fail_if_success first | refine ao_glit (b := true) rfl rfl (by with_reducible rfl) ?_ | refine ao_glit (b := false) rfl rfl (by with_reducible rfl) ?_)); apply ao_gt; (exact rfl); (exact rfl); exact t_a) | ((refine aq_is ?_; (fail_if_success first | refine aq_glit (b := true) rfl rfl (by with_reducible rfl) ?_ | refine aq_glit (b := false) rfl rfl (by with_reducible rfl) ?_)); apply aq_gt; (exact rfl); (exact rfl); exact t_a) | (apply aw_ct; (exact rfl); exact t_a)) | (first | (refine ah_is ?_; (fail_if_success first | refine ah_glit (b := true) rfl rfl rfl (by with_reducible rfl) ?_ | refine ah_glit (b := false) rfl rfl rfl (by with_reducible rfl) ?_); apply ah_gf; (exact rfl); (exact rfl); (exact rfl); exact f_a) | ((refine ao_is ?_; (fail_if_success first | refine ao_glit (b := true) rfl rfl (by with_reducible rfl) ?_ | refine ao_glit (b := false) rfl rfl (by with_reducible rfl) ?_)); apply ao_gf; (exact rfl); (exact rfl); exact f_a) | ((refine aq_is ?_; (fail_if_success first | refine aq_glit (b := true) rfl rfl (by with_reducible rfl) ?_ | refine aq_glit (b := false) rfl rfl (by with_reducible rfl) ?_)); apply aq_gf; (exact rfl); (exact rfl); exact f_a) | (apply aw_cf; (exact rfl); exact f_a)) | refine at_normal ?_ | refine at_exit ?_ | refine at_ret ?_ | refine ib_normal ?_ | refine ib_exit ?_ | refine ib_other ?_ | refine ib_ret ?_ | refine lq_exit ?_ | refine lq_ret ?_ | refine ci_ret ?_ | refine ci_exit ?_ | refine r1_ret rfl ?_ | refine r1_normal rfl ?_ | refine r2_ret rfl rfl ?_ | refine r2_normal rfl rfl ?_ | refine r3_ret rfl rfl rfl ?_ | refine r3_normal rfl rfl rfl ?_ | refine ng_normal ?_ | refine ng_exit ?_ | refine ng_ret ?_ | (apply rt_ret; (exact rfl); (exact rfl); (exact rfl); exact has_a; exact has_a; (exact rfl); (exact rfl)) | (apply rc1_ret; (exact rfl); exact has_a; (exact rfl)) | (apply rc2_ret; (exact rfl); exact has_a; (exact rfl); (exact rfl)) | (refine ao_is ?_; (fail_if_success first | refine ao_glit (b := true) rfl rfl (by with_reducible rfl) ?_ | refine ao_glit (b := false) rfl rfl (by with_reducible rfl) ?_); refine ao_gbool rfl rfl (fun _ => ?_) (fun _ => ?_)) | (refine aq_is ?_; (fail_if_success first | refine aq_glit (b := true) rfl rfl (by with_reducible rfl) ?_ | refine aq_glit (b := false) rfl rfl (by with_reducible rfl) ?_); refine aq_gbool rfl rfl (fun _ => ?_) (fun _ => ?_)) | (refine aw_is ?_; refine aw_cond rfl (fun _ => ?_) (fun _ => ?_)))
          exact ⟨l5 ++ (lo1 ++ (lg1 ++ ((gc, _) :: R))), _, hsub_a, permD _ lo1 lg1 l5 R, _, _, _, lo1, lg1, l5, rfl, rfl, hro, hrg, r5⟩
      · simp only [List.nil_append, List.cons_append]
        by_cases hfull : 1000 < ps2.length
        · rw [if_pos hfull]
          repeat' (first | refine aw_seq ?_ | ((first | apply ao_val | apply aq_val); exact wants_a; (first | exact ov_nilcheck rfl | exact ov_a); (exact rfl)) | refine zy ?_ | refine zon fun _ => ?_ | refine zoa fun vr lr hr => ?_ | refine zoS (fun _ => ?_) (fun _ => ?_) | refine zqS (fun _ => ?_) (fun _ => ?_) | refine zwS (fun _ => ?_) (fun _ => ?_))
          exact ⟨_, _, sub4 _ _ _ _, List.Perm.refl _, _, _, _, lo, lg, [], rfl, rfl, hlo, hlg, RowB.nil⟩
        · rw [if_neg hfull]
          have hdl := fun w' (h1 : ObjsAt w' _ ps2) (h2 : ObjsAt w' _ ps2) => rdeltas_ok (.slice a ps2.length c) (.slice a ps2.length c) ps2 ps2 hw1 hw3 (by omega) (by omega) w' h1 h2
          repeat' (first | (apply ao_nilh; exact hsub_a) | apply ao_nil | apply aq_nil | apply ah_end | ((first | apply ao_val | apply aq_val | (apply ah_take; (exact rfl))); exact wants_a; (first | exact ov_nilcheck rfl | exact ov_a); (exact rfl)) | ((first | apply ao_skip | apply aq_skip | (apply ah_skip; (exact rfl))); exact nots_a; (exact rfl)) | (refine ao_is ?_; first | (apply ao_new; exact wants_a; exact on_a; (exact rfl); intro _) | (apply ao_store; exact wants_a; exact ow_a; exact upd_a) | (apply ao_valw; exact wants_a; exact ox_a; (exact rfl); exact upd_a) | (apply ao_skip0; exact nots_a) | (apply ao_append; exact wants_a; (exact rfl); assumption; (exact rfl); exact cut_a; exact has_a; (exact rfl); (exact rfl); omega; omega; omega; (exact rfl); intro vr lr hr)) | ((apply ao_callr; exact wants_a; (exact oc_func rfl); (exact rfl); (intro w hw; refine hdl w ?_ ?_; exact objs_old hw hlo cut_a (fun p hp => (hres p hp).below hw.below); exact objs_old hw hlo cut_a (fun p hp => (hres p hp).below hw.below)); intro v5 l5 r5)) | (apply ah_one; (exact rfl)) | (apply ah_two; (exact rfl); (exact rfl)) | (apply ah_three; (exact rfl); (exact rfl); (exact rfl)) | (refine aw_is ?_; first | (apply aw_held (id := 12) (pl := (.t 0 (.t 1 (.t 2 (.t 3 (.t 4 (.t 5 (.t 6 (.t 7 (.o 8 (.t 9 .e))))))))))); (kernel_rfl); (kernel_rfl); (kernel_rfl); (solve | (exact List.Sublist.refl _))) | refine aw_seq ?_ | refine aw_block ?_ | refine aw_region ?_ | refine aw_skip ?_ | refine aw_exit ?_ | refine aw_ret ?_ | refine aw_label ?_ | refine aw_scope ?_ | refine aw_cond_t rfl (by with_reducible rfl) ?_ | refine aw_cond_f rfl (by with_reducible rfl) ?_ | refine aw_draw (by kernel_rfl) (by kernel_rfl) ?_) | (first | (refine ah_is ?_; (fail_if_success first | refine ah_glit (b := true) rfl rfl rfl (by with_reducible rfl) ?_ | refine ah_glit (b := false) rfl rfl rfl (by with_reducible rfl) ?_); apply ah_gt; (exact rfl); (exact rfl); (exact rfl); exact t_a) | ((refine ao_is ?_; (fail_if_success first | refine ao_glit (b := true) rfl rfl (by with_reducible rfl) ?_ | refine ao_glit (b := false) rfl rfl (by with_reducible rfl) ?_)); apply ao_gt; (exact rfl); (exact rfl); exact t_a) | ((refine aq_is ?_; (fail_if_success first | refine aq_glit (b := true) rfl rfl (by with_reducible rfl) ?_ | refine aq_glit (b := false) rfl rfl (by with_reducible rfl) ?_)); apply aq_gt; (exact rfl); (exact rfl); exact t_a) | (apply aw_ct; (exact rfl); exact t_a)) | (first | (refine ah_is ?_; (fail_if_success first | refine ah_glit (b := true) rfl rfl rfl (by with_reducible rfl) ?_ | refine ah_glit (b := false) rfl rfl rfl (by with_reducible rfl) ?_); apply ah_gf; (exact rfl); (exact rfl); (exact rfl); exact f_a) | ((refine ao_is ?_; (fail_if_success first | refine ao_glit (b := true) rfl rfl (by with_reducible rfl) ?_ | refine ao_glit (b := false) rfl rfl (by with_reducible rfl) ?_)); apply ao_gf; (exact rfl); (exact rfl); exact f_a) | ((refine aq_is ?_; (fail_if_success first | refine aq_glit (b := true) rfl rfl (by with_reducible rfl) ?_ | refine aq_glit (b := false) rfl rfl (by with_reducible rfl) ?_)); apply aq_gf; (exact rfl); (exact rfl); exact f_a) | (apply aw_cf; (exact rfl); exact f_a)) | refine at_normal ?_ | refine at_exit ?_ | refine at_ret ?_ | refine ib_normal ?_ | refine ib_exit ?_ | refine ib_other ?_ | refine ib_ret ?_ | refine lq_exit ?_ | refine lq_ret ?_ | refine ci_ret ?_ | refine ci_exit ?_ | refine r1_ret rfl ?_ | refine r1_normal rfl ?_ | refine r2_ret rfl rfl ?_ | refine r2_normal rfl rfl ?_ | refine r3_ret rfl rfl rfl ?_ | refine r3_normal rfl rfl rfl ?_ | refine ng_normal ?_ | refine ng_exit ?_ | refine ng_ret ?_ | (apply rt_ret; (exact rfl); (exact rfl); (exact rfl); exact has_a; exact has_a; (exact rfl); (exact rfl)) | (apply rc1_ret; (exact rfl); exact has_a; (exact rfl)) | (apply rc2_ret; (exact rfl); exact has_a; (exact rfl); (exact rfl)) | (refine ao_is ?_; (fail_if_success first | refine ao_glit (b := true) rfl rfl (by with_reducible rfl) ?_ | refine ao_glit (b := false) rfl rfl (by with_reducible rfl) ?_); refine ao_gbool rfl rfl (fun _ => ?_) (fun _ => ?_)) | (refine aq_is ?_; (fail_if_success first | refine aq_glit (b := true) rfl rfl (by with_reducible rfl) ?_ | refine aq_glit (b := false) rfl rfl (by with_reducible rfl) ?_); refine aq_gbool rfl rfl (fun _ => ?_) (fun _ => ?_)) | (refine aw_is ?_; refine aw_cond rfl (fun _ => ?_) (fun _ => ?_)))
          exact ⟨l5 ++ (lg1 ++ ((gc, _) :: (lo ++ R))), _, hsub_a, permE _ lo lg1 l5 R, _, _, _, lo, lg1, l5, rfl, rfl, hlo, hrg, r5⟩
end Chm
end Go.Proofs.YtboimmfegeinaaaGreat
