/- What the document's answer for layer 8 does: a relist; conditions: names of at most 1,000 bytes, at most 19,999 objects. -/
import Derived.Test.YtdakeicfhbggeaaGreatChw
import Derived.Test.YtdakeicfhbggeaaGreatCsx
import Derived.Test.YtdakeicfhbggeaaGreatChd
import Derived.Test.YtdakeicfhbggeaaGreatEvl
/- Chr: What the document's answer for layer 8 does: a relist; conditions: names of at most 1,000 bytes, at most 19,999 objects. -/
namespace Go.Proofs.YtdakeicfhbggeaaGreat
namespace Chm
open Go Go.RowKit Sx Lab Vec Ojt Evt
attribute [local irreducible] Go.Calls
theorem getO_obs (ps : List PO) (k : Kt) : getO (obs ps) k = (findK ps k).map (·.2) := by
  unfold getO findK
  rw [List.find?_map]
  rfl
theorem hasO_obs (ps : List PO) (k : Kt) : hasO (obs ps) k = hasK ps k := by
  unfold hasO hasK
  rw [List.any_map]
  rfl
theorem woO_obs (ps : List PO) (k : Kt) : woO (obs ps) k = obs (withoutP ps k) := by
  unfold woO withoutP
  rw [List.filter_map]
  rfl
theorem wiO_obs (ps : List PO) (p : PO) : wiO (obs ps) p.2 = obs (withP ps p) := by
  unfold wiO withP
  rw [obs_sort, woO_obs]
  congr 1
  exact (List.map_append (f := fun p : PO => p.2) (l₁ := withoutP ps (keyO p.2)) (l₂ := [p])).symm
theorem knO_obs (ps : List PO) (gs : List Gr) (fl : Int) (k : Kt) : knO ⟨obs ps, gs, fl⟩ k = knownC ps gs fl k := by
  unfold knO knownC
  simp only [getO_obs]
  cases findK ps k <;> rfl
theorem withP_mem {ps : List PO} {p q : PO} (h : q ∈ withP ps p) : q ∈ ps ∨ q = p := by
  rcases List.mem_append.1 (sort_mem h) with h | h
  · exact .inl (List.mem_filter.1 h).1
  · exact .inr (List.mem_singleton.1 h)
theorem withP_len {ps : List PO} {p : PO} : (withP ps p).length ≤ ps.length + 1 := by
  unfold withP
  rw [sort_len, List.length_append, List.length_singleton]
  have : (withoutP ps (keyO p.2)).length ≤ ps.length := List.length_filter_le _ _
  omega
def takesP (ps : List PO) (gs : List Gr) (fl : Int) (q : PO) : Bool := decide (knownC ps gs fl (keyO q.2) < q.2.ver) || (match findK ps (keyO q.2) with | some own => own.2.ver == q.2.ver | none => false)
theorem takes_obs (ps : List PO) (gs : List Gr) (fl : Int) (q : PO) : takesO ⟨obs ps, gs, fl⟩ q.2 = takesP ps gs fl q := by
  unfold takesO takesP
  rw [knO_obs]
  simp only [getO_obs]
  cases findK ps (keyO q.2) <;> rfl
def rlBase (ps qs : List PO) (ver : Int) : List PO := ps.filter fun p => hasK qs (keyO p.2) || decide (ver < p.2.ver)
def rlP (ps : List PO) (gs : List Gr) (fl : Int) (qs : List PO) (ver : Int) : List PO := qs.foldl (fun out q => if takesP ps gs fl q = true then withP out q else out) (rlBase ps qs ver)
theorem rlP_obs (ps : List PO) (gs : List Gr) (fl : Int) (qs : List PO) (ver : Int) : obs (rlP ps gs fl qs ver) = rlO ⟨obs ps, gs, fl⟩ (obs qs) ver := by
  have key : ∀ (l outs : List PO), obs (l.foldl (fun out q => if takesP ps gs fl q = true then withP out q else out) outs) = (obs l).foldl (rlStep ⟨obs ps, gs, fl⟩) (obs outs) := fun l => by
    induction l with
    | nil => intro outs; rfl
    | cons q l ih =>
      intro outs
      rw [List.foldl_cons, ih]
      show _ = (obs l).foldl _ (rlStep ⟨obs ps, gs, fl⟩ (obs outs) q.2)
      congr 1
      unfold rlStep
      rw [takes_obs, wiO_obs]
      split <;> rfl
  unfold rlP rlO
  rw [key]
  congr 1
  unfold rlBase
  simp only [hasO_obs]
  rw [List.filter_map]
  rfl
theorem rlP_mem {ps : List PO} {gs : List Gr} {fl : Int} {qs : List PO} {ver : Int} : (∀ p ∈ rlP ps gs fl qs ver, p ∈ ps ∨ p ∈ qs) ∧ (rlP ps gs fl qs ver).length ≤ ps.length + qs.length := by
  have key : ∀ (l outs : List PO), (∀ p ∈ l.foldl (fun out q => if takesP ps gs fl q = true then withP out q else out) outs, p ∈ outs ∨ p ∈ l) ∧ (l.foldl (fun out q => if takesP ps gs fl q = true then withP out q else out) outs).length ≤ outs.length + l.length := fun l => by
    induction l with
    | nil => intro outs; exact ⟨fun p h => .inl h, Nat.le_refl _⟩
    | cons q l ih =>
      intro outs
      rw [List.foldl_cons]
      by_cases ht : takesP ps gs fl q = true
      · rw [if_pos ht]
        obtain ⟨h1, h2⟩ := ih (withP outs q)
        have := withP_len (ps := outs) (p := q)
        refine ⟨fun p hp => ?_, by rw [List.length_cons]; omega⟩
        rcases h1 p hp with h | h
        · rcases withP_mem h with h | rfl
          · exact .inl h
          · exact .inr List.mem_cons_self
        · exact .inr (List.mem_cons_of_mem q h)
      · rw [if_neg ht]
        obtain ⟨h1, h2⟩ := ih outs
        refine ⟨fun p hp => ?_, by rw [List.length_cons]; omega⟩
        rcases h1 p hp with h | h
        · exact .inl h
        · exact .inr (List.mem_cons_of_mem q h)
  obtain ⟨h1, h2⟩ := key qs (rlBase ps qs ver)
  have hb : (rlBase ps qs ver).length ≤ ps.length := List.length_filter_le _ _
  refine ⟨fun p hp => ?_, by unfold rlP; omega⟩
  rcases h1 p hp with h | h
  · exact .inl (List.mem_filter.1 h).1
  · exact .inr h
end Chm
end Go.Proofs.YtdakeicfhbggeaaGreat
/- Chn: What the document's answer for layer 8 does: what is there behind an event; conditions: names of at most 1,000 bytes, at most 19,999 objects. -/
namespace Go.Proofs.YtdakeicfhbggeaaGreat
namespace Chm
open Go Go.RowKit Sx Lab Vec Ojt Evt
attribute [local irreducible] Go.Calls
def wfG (gs : List Gr) : Prop := gs.length ≤ 90000 ∧ ∀ g ∈ gs, g.1.1.length ≤ 1000 ∧ g.1.2.1.length ≤ 1000 ∧ g.1.2.2.length ≤ 1000
def nxP (ps : List PO) (gs : List Gr) (fl : Int) (kind : Int) (p : PO) (ver : Int) (qs : List PO) : List PO × List Gr × Int :=
  if kind = 0 then (withP ps p, gravesP gs (keyO p.2) fl, fl)
  else if kind = 1 then (withoutP ps (keyO p.2), insG (keyO p.2, p.2.ver) (gravesP gs (keyO p.2) fl), fl)
  else if kind = 2 then (rlP ps gs fl qs ver, gravesP gs k0 ver, ver)
  else (ps, gravesP gs k0 ver, ver)
theorem nxP_obs (ps : List PO) (gs : List Gr) (fl : Int) (kind : Int) (p : PO) (ver : Int) (qs : List PO) :
    nxO ⟨obs ps, gs, fl⟩ kind p.2 ver (obs qs) = ⟨obs (nxP ps gs fl kind p ver qs).1, (nxP ps gs fl kind p ver qs).2.1, (nxP ps gs fl kind p ver qs).2.2⟩ := by
  unfold nxO nxP
  by_cases h0 : kind = 0
  · rw [if_pos h0, if_pos h0]; simp only [wiO_obs]
  rw [if_neg h0, if_neg h0]
  by_cases h1 : kind = 1
  · rw [if_pos h1, if_pos h1]; simp only [woO_obs]
  rw [if_neg h1, if_neg h1]
  by_cases h2 : kind = 2
  · rw [if_pos h2, if_pos h2]; simp only [rlP_obs]
  rw [if_neg h2, if_neg h2]
theorem insG_len (g : Gr) : ∀ (l : List Gr), (insG g l).length = l.length + 1
  | [] => rfl
  | y :: r => by
    unfold insG
    split
    · rfl
    · rw [List.length_cons, insG_len g r, List.length_cons]
end Chm
end Go.Proofs.YtdakeicfhbggeaaGreat
/- Cha: What the document's answer for layer 8 does: an event is applied; conditions: names of at most 1,000 bytes, at most 1,000 objects. -/
namespace Go.Proofs.YtdakeicfhbggeaaGreat
namespace Chm
open Go Go.RowKit Sx Lab Vec Ojt Evt
attribute [local irreducible] Go.Calls
theorem callsH2 {P : Program} {B m : Nat} {w0 : World} {f : FuncId} {fn : Func} {c : Code} {args : List Value} {n r s : Nat} {H : Hp} {K : Value → Hp → Prop}
    (hf : P.funcs[f]? = some fn) (hb : fn.body = some c) (hn : fn.ntmps = n) (hl : Nat.ble args.length n = true) (hr : fn.results = #[.tmp r, .tmp s])
    (h : aw P ⟨B, w0, n⟩ c (ret2 r s fun v u H' => ∃ H2 H1 : Hp, H2.Sublist H' ∧ H2.Perm H1 ∧ K (.tuple #[v, u]) H1) (tm0 args) H) : CallsH P ⟨B, w0, m⟩ f args H K := by
  refine callsH_of_aw hf hb hn hl h fun e a t' H' r1 q => ?_
  unfold ret2 at q
  cases e with
  | normal =>
    obtain ⟨v, u, h1, h2, H2, H1, hs, hp, hk⟩ := q
    exact ⟨.inl rfl, _, H1, H2, fun w' _ => by rw [results_tmp2 hr, r1.2.2 r v h1, r1.2.2 s u h2], hs, hp, hk⟩
  | ret =>
    obtain ⟨v, u, h1, h2, H2, H1, hs, hp, hk⟩ := q
    exact ⟨.inr rfl, _, H1, H2, fun w' _ => by rw [results_tmp2 hr, r1.2.2 r v h1, r1.2.2 s u h2], hs, hp, hk⟩
  | exit _ => exact q.elim
  | goto _ => exact q.elim
  | panic _ => exact q.elim
  | outgrown => exact q.elim
def lowP (ps : List PO) (gs : List Gr) (fl : Int) (kind : Int) (p : PO) : Int := if kind = 0 ∨ kind = 1 then knownC ps gs fl (keyO p.2) else fl
def apP (ps : List PO) (gs : List Gr) (fl : Int) (kind : Int) (p : PO) (ver : Int) (qs : List PO) : Int × List PD × (List PO × List Gr × Int) :=
  if rightE kind p.2 ver (obs qs) = false then (1, [], (ps, gs, fl))
  else if (versE kind p.2 ver (obs qs)).1 ≤ lowP ps gs fl kind p then (6, [], (ps, gs, fl))
  else if 1000 < (nxP ps gs fl kind p ver qs).1.length then (3, [], (ps, gs, fl))
  else (0, dlP ps (nxP ps gs fl kind p ver qs).1, nxP ps gs fl kind p ver qs)
abbrev stP (x : List PO × List Gr × Int) : St := ⟨obs x.1, x.2.1, x.2.2⟩
theorem apP_obs (ps : List PO) (gs : List Gr) (fl : Int) (kind : Int) (p : PO) (ver : Int) (qs : List PO) :
    apO ⟨obs ps, gs, fl⟩ kind p.2 ver (obs qs) = ((apP ps gs fl kind p ver qs).1, (apP ps gs fl kind p ver qs).2.1.map deD, stP (apP ps gs fl kind p ver qs).2.2) := by
  have hlow : lowO ⟨obs ps, gs, fl⟩ kind p.2 = lowP ps gs fl kind p := by
    unfold lowO lowP
    rw [knO_obs]
  unfold apO apP
  rw [hlow, nxP_obs]
  simp only [obs_len]
  by_cases h1 : rightE kind p.2 ver (obs qs) = false
  · rw [if_pos h1, if_pos h1]; rfl
  rw [if_neg h1, if_neg h1]
  by_cases h2 : (versE kind p.2 ver (obs qs)).1 ≤ lowP ps gs fl kind p
  · rw [if_pos h2, if_pos h2]; rfl
  rw [if_neg h2, if_neg h2]
  by_cases h3 : 1000 < (nxP ps gs fl kind p ver qs).1.length
  · rw [if_pos h3, if_pos h3]; rfl
  rw [if_neg h3, if_neg h3, dlP_is]
theorem nxP_mem {ps : List PO} {gs : List Gr} {fl : Int} {kind : Int} {p : PO} {ver : Int} {qs : List PO} : ∀ q ∈ (nxP ps gs fl kind p ver qs).1, q ∈ ps ∨ q = p ∨ q ∈ qs := by
  intro q hq
  unfold nxP at hq
  repeat' split at hq
  · exact (withP_mem hq).imp id .inl
  · exact .inl (List.mem_filter.1 hq).1
  · exact (rlP_mem.1 q hq).imp id .inr
  · exact .inl hq
theorem nxP_len {ps : List PO} {gs : List Gr} {fl : Int} {kind : Int} {p : PO} {ver : Int} {qs : List PO} : (nxP ps gs fl kind p ver qs).1.length ≤ ps.length + qs.length + 1 ∧ (nxP ps gs fl kind p ver qs).2.1.length ≤ gs.length + 1 := by
  have h1 : ∀ k f, (gravesP gs k f).length ≤ gs.length := fun k f => List.length_filter_le _ _
  unfold nxP
  repeat' split
  · have := withP_len (ps := ps) (p := p)
    have := h1 (keyO p.2) fl
    simp only; omega
  · have h2 : (withoutP ps (keyO p.2)).length ≤ ps.length := List.length_filter_le _ _
    have := h1 (keyO p.2) fl
    simp only [insG_len]; omega
  · have := (rlP_mem (ps := ps) (gs := gs) (fl := fl) (qs := qs) (ver := ver)).2
    have := h1 k0 ver
    simp only; omega
  · have := h1 k0 ver
    simp only; omega
end Chm
end Go.Proofs.YtdakeicfhbggeaaGreat
/- Che: What the document's answer for layer 8 does with lists: sameness of deltas, keys of graves; conditions: names of at most 1,000 bytes, at most 100,000 entries. -/
namespace Go.Proofs.YtdakeicfhbggeaaGreat
namespace Chm
open Go Go.RowKit Sx Lab Vec Ojt Evt
attribute [local irreducible] Go.Calls
def DelAt (w : World) (v : Value) (ds : List PD) : Prop := OldRow w 21 v ds.length (ds.flatMap cellsD) ∧ ∀ d ∈ ds, ResAt w d.old.1 d.old.2.rs ∧ ResAt w d.new.1 d.new.2.rs
def cellsK (k : Kt) : List Value := [S k.1, S k.2.1, S k.2.2]
end Chm
end Go.Proofs.YtdakeicfhbggeaaGreat
/- Chf: Lists of events, and which are gone through, of layer 8; conditions: none. -/
namespace Go.Proofs.YtdakeicfhbggeaaGreat
namespace Chm
open Go Go.RowKit Sx Lab Vec Ojt Evt
attribute [local irreducible] Go.Calls
structure PE where
  kind : Int
  p : PO
  ver : Int
  v : Value
  qs : List PO
def cellsE (e : PE) : List Value := [I e.kind, S e.p.2.k, S e.p.2.s, S e.p.2.n, I e.p.2.ver, S e.p.2.c, .bool e.p.2.tm, .bool e.p.2.bs, e.p.1, I e.ver, e.v]
theorem cellsE_len (e : PE) : (cellsE e).length = 11 := rfl
def EvsAt (w : World) (v : Value) (es : List PE) : Prop := OldRow w 11 v es.length (es.flatMap cellsE) ∧ ∀ e ∈ es, ResAt w e.p.1 e.p.2.rs ∧ ObjsAt w e.v e.qs
theorem EvsAt.below {w w' : World} {v : Value} {es : List PE} (h : EvsAt w v es) (hb : Below w.heap.size w w') : EvsAt w' v es := ⟨OldRow.below h.1 hb, fun e he => ⟨(h.2 e he).1.below hb, (h.2 e he).2.below hb⟩⟩
def numE (e : PE) : Prop := numR e.p.2.rs ∧ ∀ q ∈ e.qs, numR q.2.rs
def fitEs (es : List PE) : Bool := decide (es.length ≤ 60) && es.all fun e => fitE e.p.2 e.qs
theorem fitEs_wf {es : List PE} (h : fitEs es = true) (hn : ∀ e ∈ es, numE e) : es.length ≤ 60 ∧ ∀ e ∈ es, wfS e.p.2 ∧ wfL e.qs ∧ e.qs.length ≤ 60 := by
  unfold fitEs at h
  rw [Bool.and_eq_true, decide_eq_true_eq, List.all_eq_true] at h
  exact ⟨h.1, fun e he => fitE_wf (h.2 e he) (hn e he).1 (hn e he).2⟩
set_option maxHeartbeats 16000000 in
theorem fits8_ok (v : Value) (es : List PE) (w : World) (hv : EvsAt w v es) :
    Calls Tryz.prog 24 #[v] w fun e w' => e = .returned (.bool (fitEs es)) ∧ Below w.heap.size w w' := by
  obtain ⟨a, cp, rfl, hat⟩ := OldRow.cells cellsE_len hv.1
  refine calls1 (args := [.slice a es.length cp]) Tryz.func24 rfl rfl rfl rfl ?_
  by_cases h60 : es.length ≤ 60
  · repeat' (first | refine aw_seq ?_ | refine zz ?_ | refine zon fun _ => ?_ | refine zoa fun vr lr hr => ?_ | refine zoS (fun _ => ?_) (fun _ => ?_) | refine zqS (fun _ => ?_) (fun _ => ?_) | refine zwS (fun _ => ?_) (fun _ => ?_))
    refine aw_for (t0 := [(0, .slice a es.length cp), (3, I (0 : Nat))]) (fun q t H => ∃ i : Nat, q = es.length - i ∧ i ≤ es.length ∧ (∀ (j : Nat) (e : PE), j < i → es[j]? = some e → fitE e.p.2 e.qs = true) ∧ t = [(0, .slice a es.length cp), (3, I i)] ∧ H = []) ⟨0, rfl, by omega, fun j p hj => by omega, rfl, rfl⟩ (by repeat (first | exact sub_nil | refine sub_cons rfl ?_)) ?_
    rintro q t H ⟨i, rfl, hi, hall, rfl, rfl⟩
    by_cases hlt : i < es.length
    · obtain ⟨⟨kind, ⟨x, o⟩, ver, v2, qs⟩, he⟩ := getP hlt
      obtain ⟨g, o1, rfl, hg, hc⟩ := hat i _ (i : Int) he rfl
      have cA : ∀ (j : Nat) z, [I kind, S o.k, S o.s, S o.n, I o.ver, S o.c, .bool o.tm, .bool o.bs, x, I ver, v2][j]? = some z → w.cell? ⟨g, o1 + (i : Int).toNat * 11 + j, none⟩ = some z := hc
      have m1 := List.mem_of_getElem? he
      have hr := fun w' (hb : Below w.heap.size w w') => Evt.fits_ok kind (x, o) ver v2 qs w' ((hv.2 _ m1).1.below hb) ((hv.2 _ m1).2.below hb)
      simp only at hr
      cases hq : fitE o qs
      · rw [show fitEs es = false by
          unfold fitEs
          rw [show (es.all fun e => fitE e.p.2 e.qs) = false from List.all_eq_false.2 ⟨_, m1, by simp only; rw [hq]; decide⟩, Bool.and_false]]
        rw [hq] at hr
        repeat' (first | refine aw_seq ?_ | ((first | apply ao_val | apply aq_val); exact wants_a; (first | exact ov_load_oa rfl hg cA rfl | exact ov_a); (exact rfl)) | refine zy ?_ | refine zon fun _ => ?_ | refine zoa fun vr lr hr => ?_ | ((first | apply ao_call | apply aq_call); exact wants_a; (first | exact oc_func rfl | exact oc_clos rfl rfl | exact oc_bnd rfl rfl); (exact rfl); (first | exact fun w hw => hr w hw.below)) | refine zoS (fun _ => ?_) (fun _ => ?_) | refine zqS (fun _ => ?_) (fun _ => ?_) | refine zwS (fun _ => ?_) (fun _ => ?_))
        exact fun w' hw => ⟨rfl, hw.below⟩
      · rw [hq] at hr
        repeat' (first | refine aw_seq ?_ | ((first | apply ao_val | apply aq_val); exact wants_a; (first | exact ov_load_oa rfl hg cA rfl | exact ov_a); (exact rfl)) | refine zy ?_ | refine zon fun _ => ?_ | refine zoa fun vr lr hr => ?_ | ((first | apply ao_call | apply aq_call); exact wants_a; (first | exact oc_func rfl | exact oc_clos rfl rfl | exact oc_bnd rfl rfl); (exact rfl); (first | exact fun w hw => hr w hw.below)) | refine zoS (fun _ => ?_) (fun _ => ?_) | refine zqS (fun _ => ?_) (fun _ => ?_) | refine zwS (fun _ => ?_) (fun _ => ?_))
        exact lq_normal' ⟨i + 1, rfl, by omega, fun j z hj hz => by
          by_cases e1 : j = i
          · subst e1; rw [he] at hz; cases hz; exact hq
          · exact hall j z (by omega) hz, rfl, rfl⟩ (by omega) (by repeat (first | exact sub_nil | refine sub_cons rfl ?_)) hsub_a
    · obtain rfl : i = es.length := by omega
      rw [show fitEs es = true by
        unfold fitEs
        rw [decide_eq_true h60, Bool.true_and]
        exact List.all_eq_true.2 fun e he => by
          obtain ⟨j, hj⟩ := List.getElem?_of_mem he
          exact hall j e (List.getElem?_eq_some_iff.1 hj).1 hj]
      repeat' (first | refine aw_seq ?_ | refine zz ?_ | refine zon fun _ => ?_ | refine zoa fun vr lr hr => ?_ | refine zoS (fun _ => ?_) (fun _ => ?_) | refine zqS (fun _ => ?_) (fun _ => ?_) | refine zwS (fun _ => ?_) (fun _ => ?_))
      exact fun w' hw => ⟨rfl, hw.below⟩
  · rw [show fitEs es = false by unfold fitEs; rw [decide_eq_false h60]; rfl]
    repeat' (first | refine aw_seq ?_ | refine zz ?_ | refine zon fun _ => ?_ | refine zoa fun vr lr hr => ?_ | refine zoS (fun _ => ?_) (fun _ => ?_) | refine zqS (fun _ => ?_) (fun _ => ?_) | refine zwS (fun _ => ?_) (fun _ => ?_))
    exact fun w' hw => ⟨rfl, hw.below⟩
end Chm
end Go.Proofs.YtdakeicfhbggeaaGreat
/- Chy: Deltas in new memory; where parts of the own heap lie; the document's Apply as a call out of a longer heap; conditions: none. -/
namespace Go.Proofs.YtdakeicfhbggeaaGreat
namespace Chm
open Go Go.RowKit Sx Lab Vec Ojt Evt
attribute [local irreducible] Go.Calls
def Lies (w : World) (l : Hp) : Prop := ∀ b o, (b, o) ∈ l → w.heap[b]? = some o
theorem lies_of {E : Env} {H l R : Hp} {w : World} (h : RepH E H w) (hc : Cut H l R) : Lies w l := fun b o hm => ((h.perm hc).at_ b o (List.mem_append_left _ hm)).2
def KD (d : PD) (l : Hp) : Prop := ∃ l1 l2, l = l1 ++ l2 ∧ KO d.old l1 ∧ KO d.new l2
def DDels (ds : List De) (v : Value) (l : Hp) : Prop := ∃ (ps : List PD) (l0 ls : Hp), ps.map deD = ds ∧ l = l0 ++ ls ∧ RowB 82 21 v l0 ps.length (ps.flatMap cellsD) ∧ Parts KD ls ps
theorem gravesP_wf {gs : List Gr} {k : Kt} {fl : Int} (h : wfG gs) : wfG (gravesP gs k fl) := ⟨by have : (gravesP gs k fl).length ≤ gs.length := List.length_filter_le _ _; have := h.1; omega, fun g hg => h.2 g (gravesP_mem.1 hg).1⟩
theorem nxP_wfG {ps : List PO} {gs : List Gr} {fl : Int} {kind : Int} {p : PO} {ver : Int} {qs : List PO} (h : wfG gs) (hp : wfS p.2) (hl : gs.length ≤ 80000) : wfG (nxP ps gs fl kind p ver qs).2.1 := by
  unfold nxP
  repeat' split
  · exact gravesP_wf h
  · have hg := gravesP_wf (k := keyO p.2) (fl := fl) h
    have hle : (gravesP gs (keyO p.2) fl).length ≤ gs.length := List.length_filter_le _ _
    refine ⟨by rw [insG_len]; omega, fun g hg2 => ?_⟩
    rcases insG_mem.1 hg2 with rfl | hg2
    · exact ⟨hp.1, hp.2.1, hp.2.2.1⟩
    · exact hg.2 g hg2
  · exact gravesP_wf h
  · exact gravesP_wf h
theorem apP_keep {ps : List PO} {gs : List Gr} {fl : Int} {kind : Int} {p : PO} {ver : Int} {qs : List PO} (hw1 : wfL ps) (hwo : wfS p.2) (hw2 : wfL qs) (hwg : wfG gs) (hl : ps.length ≤ 1000) (hgl : gs.length ≤ 80000) :
    wfL (apP ps gs fl kind p ver qs).2.2.1 ∧ wfG (apP ps gs fl kind p ver qs).2.2.2.1 ∧ (apP ps gs fl kind p ver qs).2.2.1.length ≤ 1000 ∧ (apP ps gs fl kind p ver qs).2.2.2.1.length ≤ gs.length + 1 ∧ (∀ q ∈ (apP ps gs fl kind p ver qs).2.2.1, q ∈ ps ∨ q = p ∨ q ∈ qs) ∧
    ((apP ps gs fl kind p ver qs).2.1 = [] ∨ ((apP ps gs fl kind p ver qs).2.1 = dlP ps (nxP ps gs fl kind p ver qs).1 ∧ (nxP ps gs fl kind p ver qs).1.length ≤ 1000)) := by
  have h0 : wfL ps ∧ wfG gs ∧ ps.length ≤ 1000 ∧ gs.length ≤ gs.length + 1 ∧ (∀ q ∈ ps, q ∈ ps ∨ q = p ∨ q ∈ qs) := ⟨hw1, hwg, hl, by omega, fun q hq => .inl hq⟩
  unfold apP
  split
  · exact ⟨h0.1, h0.2.1, h0.2.2.1, h0.2.2.2.1, h0.2.2.2.2, .inl rfl⟩
  split
  · exact ⟨h0.1, h0.2.1, h0.2.2.1, h0.2.2.2.1, h0.2.2.2.2, .inl rfl⟩
  split
  · exact ⟨h0.1, h0.2.1, h0.2.2.1, h0.2.2.2.1, h0.2.2.2.2, .inl rfl⟩
  · rename_i h3
    refine ⟨⟨by simp only; omega, fun q hq => ?_⟩, nxP_wfG hwg hwo hgl, by simp only; omega, nxP_len.2, nxP_mem, .inr ⟨rfl, by omega⟩⟩
    rcases nxP_mem q hq with h | rfl | h
    · exact hw1.2 q h
    · exact hwo
    · exact hw2.2 q h
end Chm
end Go.Proofs.YtdakeicfhbggeaaGreat
