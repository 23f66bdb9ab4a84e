/- Contracts of the landed code of layer 8; conditions: names of at most 1,000 bytes, at most 1,000 objects. -/
import Derived.Test.YtboimmfegeinaaaGreatCdm
namespace Go.Proofs.YtboimmfegeinaaaGreat
namespace Chm
open Go Go.RowKit Sx Lab Vec Ojt Evt
attribute [local irreducible] Go.Calls

theorem pobjects_ok {st : St} {g : Nat} {l : Hp} (h : LCh st g l) (hf : FitSt st) (w : World) (hl : Lies w l) : Calls Tryz.prog 11 #[.pointer (some ⟨g, 0, none⟩)] w fun e w' => ∃ r, e = .returned r ∧ NewD (DObjs st.os) w w' r := by
  obtain ⟨mo, mg, X, co, G, cg, hC, -⟩ := cAt_lies h hl
  exact objects_ok hC hf.fine hf.wf hf.os
theorem pgraves_ok {st : St} {g : Nat} {l : Hp} (h : LCh st g l) (hf : FitSt st) (w : World) (hl : Lies w l) :
    Calls Tryz.prog 13 #[.pointer (some ⟨g, 0, none⟩)] w fun e w' => ∃ r, e = .returned r ∧ NewRow 33 3 w w' r (st.gs.map (·.1)).length ((st.gs.map (·.1)).flatMap cellsK) := by
  obtain ⟨mo, mg, X, co, G, cg, hC, -⟩ := cAt_lies h hl
  exact graves_ok hC hf.fine hf.gs
theorem pget_ok {st : St} {g : Nat} {l : Hp} (h : LCh st g l) (hf : FitSt st) (k : Kt) (w : World) (hl : Lies w l) :
    Calls Tryz.prog 14 #[.pointer (some ⟨g, 0, none⟩), K3 k] w fun e w' => ∃ r, e = .returned (.tuple #[OV (getB (getO st.os k)).1 r, .bool (getB (getO st.os k)).2]) ∧ NewRow 97 2 w w' r (getB (getO st.os k)).1.rs.length (rcells (getB (getO st.os k)).1.rs) := by
  obtain ⟨mo, mg, X, co, G, cg, hC, -⟩ := cAt_lies h hl
  exact get_ok hC hf.fine hf.wf k
theorem pknown_ok {st : St} {g : Nat} {l : Hp} (h : LCh st g l) (hf : FitSt st) (k : Kt) (w : World) (hl : Lies w l) : Calls Tryz.prog 18 #[.pointer (some ⟨g, 0, none⟩), K3 k] w fun e w' => e = .returned (I (knO st k)) ∧ Below w.heap.size w w' := by
  obtain ⟨mo, mg, X, co, G, cg, hC, -⟩ := cAt_lies h hl
  exact known_ok hC hf.fine k
theorem pfloor_ok {st : St} {g : Nat} {l : Hp} (h : LCh st g l) (_hf : FitSt st) (w : World) (hl : Lies w l) : Calls Tryz.prog 17 #[.pointer (some ⟨g, 0, none⟩)] w fun e w' => e = .returned (I st.fl) ∧ Below w.heap.size w w' := by
  obtain ⟨mo, mg, X, co, G, cg, hC, -⟩ := cAt_lies h hl
  exact floor_ok hC

/-! The live question. -/
def aP : Ob := ⟨[112, 111, 100], [97], [120], 5, [], false, false, []⟩
def aO : Ob := ⟨[112, 111, 100], [97], [120], 3, [], false, false, []⟩
def aQ : Ob := ⟨[112, 111, 100], [97], [121], 4, [], false, false, []⟩
def aD : Ob := ⟨[112, 111, 100], [97], [120], 6, [], false, false, []⟩
abbrev s1 : St := ⟨[aP], [], 0⟩
abbrev s2 : St := ⟨[aP, aQ], [], 4⟩
abbrev s3 : St := ⟨[aQ], [(keyO aP, 6)], 4⟩
abbrev s4 : St := ⟨[aQ], [], 6⟩
theorem al1 : apO .new 0 aP 0 [] = (0, [⟨keyO aP, false, true, zO, aP⟩], s1) := by
  have hn : nxO .new 0 aP 0 [] = s1 := by kernel_rfl
  unfold apO
  rw [if_neg (by decide), if_neg (by decide), hn, if_neg (by decide)]
  show (0, dlO [] [aP], s1) = _
  rw [dlO, dlO]
theorem al2 : apO s1 0 aO 0 [] = (6, [], s1) := by
  unfold apO
  rw [if_neg (by decide), if_pos (by decide)]
theorem al3 : apO s1 2 zO 4 [aQ] = (0, [⟨keyO aQ, false, true, zO, aQ⟩], s2) := by
  have hn : nxO s1 2 zO 4 [aQ] = s2 := by kernel_rfl
  unfold apO
  rw [if_neg (by decide), if_neg (by decide), hn, if_neg (by decide)]
  show (0, dlO [aP] [aP, aQ], s2) = _
  rw [dlO, if_neg (by decide), if_neg (by decide), if_pos rfl, dlO, dlO]
theorem al4 : apO s2 1 aD 0 [] = (0, [⟨keyO aP, true, false, aP, zO⟩], s3) := by
  have hn : nxO s2 1 aD 0 [] = s3 := by kernel_rfl
  unfold apO
  rw [if_neg (by decide), if_neg (by decide), hn, if_neg (by decide)]
  show (0, dlO [aP, aQ] [aQ], s3) = _
  rw [dlO, if_pos (by decide), dlO, if_neg (by decide), if_neg (by decide), if_pos rfl, dlO]
theorem al5 : apO s3 3 zO 6 [] = (0, [], s4) := by
  have hn : nxO s3 3 zO 6 [] = s4 := by kernel_rfl
  unfold apO
  rw [if_neg (by decide), if_neg (by decide), hn, if_neg (by decide)]
  show (0, dlO [aQ] [aQ], s4) = _
  rw [dlO, if_neg (by decide), if_neg (by decide), if_pos rfl, dlO]
theorem al6 : apO s4 0 aQ 0 [] = (6, [], s4) := by
  unfold apO
  rw [if_neg (by decide), if_pos (by decide)]
theorem apX_ok {m : Nat} {w0 : World} {st : St} {g : Nat} {l le : Hp} {kind : Int} {p : PO} {ver : Int} {v2 : Value} {qs : List PO} {er : Int} {ds : List De} {st2 : St} (hx : apO st kind p.2 ver (obs qs) = (er, ds, st2)) (h : LCh st g l) (hf : FitSt st) (hwo : wfS p.2) (hw2 : wfL qs) (hl3 : qs.length ≤ 1000) (hsl1 : ∃ a n c, p.1 = .slice a n c) (hsl2 : ∃ a n c, v2 = .slice a n c)
    (hE : ∀ {n : Nat} {H R2 : Hp} w', RepH ⟨w0.heap.size, w0, n⟩ H w' → Cut H le R2 → ResAt w' p.1 p.2.rs ∧ ObjsAt w' v2 qs) (R : Hp) :
    CallsH Tryz.prog ⟨w0.heap.size, w0, m⟩ 7 [.pointer (some ⟨g, 0, none⟩), EV kind p ver v2] (l ++ (le ++ R)) fun r H' =>
      ∃ rd ld l', r = .tuple #[rd, I er] ∧ H' = ld ++ (l' ++ (le ++ R)) ∧ LCh st2 g l' ∧ DDels ds rd ld := by
  have := papplyE_ok (m := m) h hf kind p ver v2 qs hwo hw2 hl3 hsl1 hsl2 hE R
  rw [hx] at this
  exact this
/-- One delta in new memory. -/
theorem del_one {x : De} {v : Value} {l : Hp} (h : DDels [x] v l) : ∃ (ga cap : Nat) (cs : List Value) (ls : Hp), v = .slice (some ⟨ga, 0, none⟩) 1 cap ∧ l = [(ga, .cells cs.toArray 57 (0, 0))] ++ ls ∧ cs[3]? = some (.bool x.had) ∧ cs[4]? = some (.bool x.has) ∧ cs[8]? = some (I x.old.ver) ∧ cs[16]? = some (I x.new.ver) := by
  obtain ⟨ps, l0, ls, h1, rfl, h3, h4⟩ := h
  obtain ⟨d, rfl, rfl⟩ : ∃ d, ps = [d] ∧ deD d = x := by
    match ps, h1 with
    | [d], h1 => exact ⟨d, rfl, (List.cons.inj h1).1⟩
  obtain ⟨ga, cap, cs, rfl, rfl, hc⟩ := RowB.cells_all cellsD_len h3 (by simp)
  refine ⟨ga, cap, cs, ls, rfl, rfl, ?_, ?_, ?_, ?_⟩
  · exact hc 0 d (0 : Nat) 3 _ rfl rfl rfl
  · exact hc 0 d (0 : Nat) 4 _ rfl rfl rfl
  · exact hc 0 d (0 : Nat) 8 _ rfl rfl rfl
  · exact hc 0 d (0 : Nat) 16 _ rfl rfl rfl
theorem wf_al : wfS aP ∧ wfS aO ∧ wfS aQ ∧ wfS aD ∧ wfS zO := by simp [wfS, wfR, aP, aO, aQ, aD]
theorem wfL0 : wfL ([] : List PO) := ⟨by simp, fun _ h => by cases h⟩
theorem nilE (w : World) : ResAt w (.slice none 0 0) [] ∧ ObjsAt w (.slice none 0 0) [] := ⟨OldRow.nil, OldRow.nil, fun _ h => by cases h⟩
set_option maxRecDepth 20000 in
set_option maxHeartbeats 64000000 in
theorem palive_ok (w : World) : Calls Tryz.prog 5 #[] w fun e w' => e = .returned (.bool true) ∧ Below w.heap.size w w' := by
  obtain ⟨w1, w2, w3, w4, w5⟩ := wf_al
  have f1 : FitSt s1 := by have := (fit_ap fit_new (by simp) (kind := 0) (o := aP) (ver := 0) (qs := []) w1 (by simp) (fun _ h => by cases h)).1; rwa [al1] at this
  have f2 : FitSt s2 := by have := (fit_ap f1 (by simp) (kind := 2) (o := zO) (ver := 4) (qs := [aQ]) w5 (by simp) (fun q h => by rw [List.mem_singleton.1 h]; exact w3)).1; rwa [al3] at this
  have f3 : FitSt s3 := by have := (fit_ap f2 (by simp) (kind := 1) (o := aD) (ver := 0) (qs := []) w4 (by simp) (fun _ h => by cases h)).1; rwa [al4] at this
  have f4 : FitSt s4 := by have := (fit_ap f3 (by simp) (kind := 3) (o := zO) (ver := 6) (qs := []) w5 (by simp) (fun _ h => by cases h)).1; rwa [al5] at this
  have c1 := fun {m g : Nat} {l : Hp} h R => apX_ok (m := m) (w0 := w) (g := g) (l := l) (le := []) (p := (.slice none 0 0, aP)) (v2 := .slice none 0 0) (qs := []) al1 h fit_new w1 wfL0 (by simp) ⟨_, _, _, rfl⟩ ⟨_, _, _, rfl⟩ (fun w' _ _ => nilE w') R
  have c2 := fun {m g : Nat} {l : Hp} h R => apX_ok (m := m) (w0 := w) (g := g) (l := l) (le := []) (p := (.slice none 0 0, aO)) (v2 := .slice none 0 0) (qs := []) al2 h f1 w2 wfL0 (by simp) ⟨_, _, _, rfl⟩ ⟨_, _, _, rfl⟩ (fun w' _ _ => nilE w') R
  have c3 := fun {m g bq : Nat} {l : Hp} h R => apX_ok (m := m) (w0 := w) (g := g) (l := l) (le := [(bq, .cells (cellsO (.slice none 0 0, aQ)).toArray 36 (0, 0))]) (p := (.slice none 0 0, zO)) (v2 := .slice (some ⟨bq, 0, none⟩) 1 1) (qs := [(.slice none 0 0, aQ)]) al3 h f1 w5 ⟨by simp, fun q hq => by rw [List.mem_singleton.1 hq]; exact w3⟩ (by simp) ⟨_, _, _, rfl⟩ ⟨_, _, _, rfl⟩
    (fun w' hw hc => ⟨OldRow.nil, objs_old hw (RowB.lit rfl) hc fun q hq => by rw [List.mem_singleton.1 hq]; exact OldRow.nil⟩) R
  have c4 := fun {m g : Nat} {l : Hp} h R => apX_ok (m := m) (w0 := w) (g := g) (l := l) (le := []) (p := (.slice none 0 0, aD)) (v2 := .slice none 0 0) (qs := []) al4 h f2 w4 wfL0 (by simp) ⟨_, _, _, rfl⟩ ⟨_, _, _, rfl⟩ (fun w' _ _ => nilE w') R
  have c5 := fun {m g : Nat} {l : Hp} h R => apX_ok (m := m) (w0 := w) (g := g) (l := l) (le := []) (p := (.slice none 0 0, zO)) (v2 := .slice none 0 0) (qs := []) al5 h f3 w5 wfL0 (by simp) ⟨_, _, _, rfl⟩ ⟨_, _, _, rfl⟩ (fun w' _ _ => nilE w') R
  have c6 := fun {m g : Nat} {l : Hp} h R => apX_ok (m := m) (w0 := w) (g := g) (l := l) (le := []) (p := (.slice none 0 0, aQ)) (v2 := .slice none 0 0) (qs := []) al6 h f4 w3 wfL0 (by simp) ⟨_, _, _, rfl⟩ ⟨_, _, _, rfl⟩ (fun w' _ _ => nilE w') R
  refine calls1 (args := []) Tryz.func5 rfl rfl rfl rfl ?_
  repeat' (first | refine aw_seq ?_ | refine zz ?_ | refine zon fun _ => ?_ | refine zoa fun vr lr hr => ?_ | ((apply ao_callD; exact wants_a; (exact oc_func rfl); (exact rfl); (intro w hw; exact pnew_ok w); intro vr l0 hr; obtain ⟨g, hvr, hL0⟩ := hr; subst hvr)) | refine zoS (fun _ => ?_) (fun _ => ?_) | refine zqS (fun _ => ?_) (fun _ => ?_) | refine zwS (fun _ => ?_) (fun _ => ?_))
  repeat' (first | refine aw_seq ?_ | refine zz ?_ | refine zon fun _ => ?_ | refine zoa fun vr lr hr => ?_ | ((apply ao_callH (l := l0); exact wants_a; (exact oc_func rfl); (exact rfl); (exact cut_a); (exact c1 hL0 _); rintro _ _ ⟨ra, la, l1, rfl, rfl, hL1, hA⟩; obtain ⟨ga, ca, csa, lsa, rfl, rfl, a3, a4, -, -⟩ := del_one hA; simp only at a3 a4)) | refine zoS (fun _ => ?_) (fun _ => ?_) | refine zqS (fun _ => ?_) (fun _ => ?_) | refine zwS (fun _ => ?_) (fun _ => ?_))
  repeat' (first | refine aw_seq ?_ | refine zz ?_ | refine zon fun _ => ?_ | refine zoa fun vr lr hr => ?_ | ((apply ao_callH (l := l1); exact wants_a; (exact oc_func rfl); (exact rfl); (exact cut_a); (exact c2 hL1 _); rintro _ _ ⟨rb, lb, l2, rfl, rfl, hL2, -⟩)) | refine zoS (fun _ => ?_) (fun _ => ?_) | refine zqS (fun _ => ?_) (fun _ => ?_) | refine zwS (fun _ => ?_) (fun _ => ?_))
  repeat' (first | refine aw_seq ?_ | refine zz ?_ | refine zon fun _ => ?_ | refine zoa fun vr lr hr => ?_ | ((apply ao_callH (l := l2 ++ [_]); exact wants_a; (exact oc_func rfl); (exact rfl); (exact Cut.app cut_a Cut.here1); (rw [List.append_assoc]; exact c3 hL2 _); rintro _ _ ⟨rc, lc, l3, rfl, rfl, hL3, hC⟩; obtain ⟨gc, cc, csc, lsc, rfl, rfl, -, -, -, b16⟩ := del_one hC; simp only at b16)) | refine zoS (fun _ => ?_) (fun _ => ?_) | refine zqS (fun _ => ?_) (fun _ => ?_) | refine zwS (fun _ => ?_) (fun _ => ?_))
  repeat' (first | refine aw_seq ?_ | refine zz ?_ | refine zon fun _ => ?_ | refine zoa fun vr lr hr => ?_ | ((apply ao_callH (l := l3); exact wants_a; (exact oc_func rfl); (exact rfl); (exact cut_a); (exact c4 hL3 _); rintro _ _ ⟨rd, ld, l4, rfl, rfl, hL4, hD⟩; obtain ⟨gd, cd, csd, lsd, rfl, rfl, -, -, d8, -⟩ := del_one hD; simp only at d8)) | refine zoS (fun _ => ?_) (fun _ => ?_) | refine zqS (fun _ => ?_) (fun _ => ?_) | refine zwS (fun _ => ?_) (fun _ => ?_))
  repeat' (first | refine aw_seq ?_ | refine zz ?_ | refine zon fun _ => ?_ | refine zoa fun vr lr hr => ?_ | ((apply ao_callr; exact wants_a; (exact oc_func rfl); (exact rfl); (intro w hw; exact pgraves_ok hL4 f3 w (lies_of hw (l := l4) cut_a)); intro v5 l5 r5; replace r5 : RowB 33 3 v5 l5 1 (cellsK (keyO aP)) := r5; obtain ⟨a5, q5, hz5⟩ := r5.len; subst hz5)) | ((apply ao_callH (l := l4); exact wants_a; (exact oc_func rfl); (exact rfl); (exact cut_a); (exact c5 hL4 _); rintro _ _ ⟨re, le, l6, rfl, rfl, hL6, -⟩)) | refine zoS (fun _ => ?_) (fun _ => ?_) | refine zqS (fun _ => ?_) (fun _ => ?_) | refine zwS (fun _ => ?_) (fun _ => ?_))
  repeat' (first | refine aw_seq ?_ | refine zz ?_ | refine zon fun _ => ?_ | refine zoa fun vr lr hr => ?_ | ((apply ao_callH (l := l6); exact wants_a; (exact oc_func rfl); (exact rfl); (exact cut_a); (exact c6 hL6 _); rintro _ _ ⟨rf, lf, l7, rfl, rfl, hL7, -⟩)) | refine zoS (fun _ => ?_) (fun _ => ?_) | refine zqS (fun _ => ?_) (fun _ => ?_) | refine zwS (fun _ => ?_) (fun _ => ?_))
  have hpg : ∀ w', Lies w' l7 → Calls Tryz.prog 14 #[.pointer (some ⟨g, 0, none⟩), K3 (keyO aQ)] w' fun e w'' => ∃ r, e = .returned (.tuple #[OV aQ r, .bool true]) ∧ NewRow 97 2 w' w'' r 0 [] := fun w' hl => by
    have := pget_ok hL7 f4 (keyO aQ) w' hl
    rwa [show getB (getO s4.os (keyO aQ)) = (aQ, true) from by kernel_rfl] at this
  have hpf : ∀ w', Lies w' l7 → Calls Tryz.prog 17 #[.pointer (some ⟨g, 0, none⟩)] w' fun e w'' => e = .returned (I 6) ∧ Below w'.heap.size w' w'' := fun w' hl => pfloor_ok hL7 f4 w' hl
  have hpk : ∀ w', Lies w' l7 → Calls Tryz.prog 18 #[.pointer (some ⟨g, 0, none⟩), K3 (keyO aP)] w' fun e w'' => e = .returned (I 6) ∧ Below w'.heap.size w' w'' := fun w' hl => by
    have := pknown_ok hL7 f4 (keyO aP) w' hl
    rwa [show knO s4 (keyO aP) = 6 from by kernel_rfl] at this
  unfold aQ at hpg
  unfold aP at hpk
  repeat' (first | refine aw_seq ?_ | refine zz ?_ | refine zon fun _ => ?_ | refine zoa fun vr lr hr => ?_ | ((apply ao_callrg; exact wants_a; (exact oc_func rfl); (exact rfl); (intro w hw; exact hpg w (lies_of hw (l := l7) cut_a)); intro v7 l8 r7; obtain ⟨a7, q7, hz7⟩ := r7.len; subst hz7)) | refine zoS (fun _ => ?_) (fun _ => ?_) | refine zqS (fun _ => ?_) (fun _ => ?_) | refine zwS (fun _ => ?_) (fun _ => ?_))
  repeat' (first | refine aw_seq ?_ | refine zz ?_ | refine zon fun _ => ?_ | refine zoa fun vr lr hr => ?_ | ((first | apply ao_call | apply aq_call); exact wants_a; (first | exact oc_func rfl | exact oc_clos rfl rfl); (exact rfl); (first | exact fun w hw => hpf w (lies_of hw (l := l7) cut_a) | exact fun w hw => hpk w (lies_of hw (l := l7) cut_a))) | ((apply ao_callr; exact wants_a; (exact oc_func rfl); (exact rfl); (intro w hw; exact pgraves_ok hL7 f4 w (lies_of hw (l := l7) cut_a)); intro v9 l9 r9; replace r9 : RowB 33 3 v9 l9 0 [] := r9; obtain ⟨a9, q9, hz9⟩ := r9.len; subst hz9)) | refine zoS (fun _ => ?_) (fun _ => ?_) | refine zqS (fun _ => ?_) (fun _ => ?_) | refine zwS (fun _ => ?_) (fun _ => ?_))
  repeat' (first | refine aw_seq ?_ | refine zz ?_ | refine zon fun _ => ?_ | refine zoa fun vr lr hr => ?_ | ((apply ao_callD; exact wants_a; (exact oc_func rfl); (exact rfl); (intro w hw; exact pobjects_ok hL7 f4 w (lies_of hw (l := l7) cut_a)); rintro vx _ ⟨ps, lo, lp, hob, rfl, ro, -⟩; have hp1 : ps.length = 1 := (by have := congrArg List.length hob; simpa using this); rw [hp1] at ro; obtain ⟨ax, qx, hzx⟩ := ro.len; subst hzx)) | refine zoS (fun _ => ?_) (fun _ => ?_) | refine zqS (fun _ => ?_) (fun _ => ?_) | refine zwS (fun _ => ?_) (fun _ => ?_))
  exact fun w' hw => ⟨rfl, hw.below⟩
end Chm
end Go.Proofs.YtboimmfegeinaaaGreat
