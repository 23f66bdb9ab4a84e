/- Deltas in new memory; where parts of the own heap lie; the document's Apply as a call out of a longer heap; conditions: none. -/
import Derived.Test.YtboimmfegeinaaaGreatCha
import Derived.Test.YtboimmfegeinaaaGreatChe
import Derived.Test.YtboimmfegeinaaaGreatChf
namespace Go.Proofs.YtboimmfegeinaaaGreat
namespace Chm
open Go Go.RowKit Sx Lab Vec Ojt Evt
attribute [local irreducible] Go.Calls

/-- These blocks lie in a world. -/
def Lies (w : World) (l : Hp) : Prop := ∀ b o, (b, o) ∈ l → w.heap[b]? = some o
theorem lies_of {E : Env} {H l R : Hp} {w : World} (h : RepH E H w) (hc : Cut H l R) : Lies w l := fun b o hm => ((h.perm hc).at_ b o (List.mem_append_left _ hm)).2
/-- Deltas in new memory. -/
def KD (d : PD) (l : Hp) : Prop := ∃ l1 l2, l = l1 ++ l2 ∧ KO d.old l1 ∧ KO d.new l2
def DDels (ds : List De) (v : Value) (l : Hp) : Prop := ∃ (ps : List PD) (l0 ls : Hp), ps.map deD = ds ∧ l = l0 ++ ls ∧ RowB 57 21 v l0 ps.length (ps.flatMap cellsD) ∧ Parts KD ls ps
theorem dels_at {E : Env} {H R l : Hp} {w : World} {v : Value} {ds : List De} (h : RepH E H w) (hd : DDels ds v l) (hc : Cut H l R) : ∃ ps, ps.map deD = ds ∧ DelAt w v ps := by
  obtain ⟨ps, l0, ls, h1, rfl, h3, h4⟩ := hd
  refine ⟨ps, h1, h.oldr h3 hc.fst, fun d hd => ?_⟩
  obtain ⟨l, R', hc2, l1, l2, rfl, k1, k2⟩ := h4.at hd
  have hc3 := hc.snd.trans hc2
  exact ⟨h.oldr k1 hc3.fst, h.oldr k2 hc3.snd⟩
/-- The document's cache, in the own heap. -/
structure RCh (w0 : World) (ps : List PO) (gs : List Gr) (fl : Int) (gc : Nat) (l : Hp) : Prop where
  res : ∀ p ∈ ps, ResAt w0 p.1 p.2.rs
  wfl : wfL ps
  wfg : wfG gs
  len : ps.length ≤ 1000
  at_ : ∃ v u lo lg, l = (gc, .cells #[v, u, I fl] 31 (0, 0)) :: (lo ++ lg) ∧ RowB 36 8 v lo ps.length (ps.flatMap cellsO) ∧ RowB 73 4 u lg gs.length (gs.flatMap cellsG)
theorem RCh.chAt {n : Nat} {w0 w : World} {H R l : Hp} {gc : Nat} {ps : List PO} {gs : List Gr} {fl : Int} (h : RCh w0 ps gs fl gc l) (hw : RepH ⟨w0.heap.size, w0, n⟩ H w) (hc : Cut H l R) : ∃ v u, ChAt w gc v ps u gs fl := by
  obtain ⟨v, u, lo, lg, rfl, h1, h2⟩ := h.at_
  have hb : Has H gc (.cells #[v, u, I fl] 31 (0, 0)) := by
    unfold Has
    exact (List.Perm.mem_iff hc).2 (List.mem_append_left _ List.mem_cons_self)
  have hc2 : Cut H (lo ++ lg) ((gc, .cells #[v, u, I fl] 31 (0, 0)) :: R) := by
    unfold Cut at *
    refine hc.trans ?_
    exact List.perm_middle.symm
  exact ⟨v, u, chAt_of hw hb h1 hc2.fst h2 hc2.snd h.res⟩
/-- What is known of a key fits. -/
theorem gravesP_wf {gs : List Gr} {k : Kt} {fl : Int} (h : wfG gs) : wfG (gravesP gs k fl) := ⟨by have : (gravesP gs k fl).length ≤ gs.length := List.length_filter_le _ _; have := h.1; omega, fun g hg => h.2 g (gravesP_mem.1 hg).1⟩
theorem nxP_wfG {ps : List PO} {gs : List Gr} {fl : Int} {kind : Int} {p : PO} {ver : Int} {qs : List PO} (h : wfG gs) (hp : wfS p.2) (hl : gs.length ≤ 80000) : wfG (nxP ps gs fl kind p ver qs).2.1 := by
  unfold nxP
  repeat' split
  · exact gravesP_wf h
  · have hg := gravesP_wf (k := keyO p.2) (fl := fl) h
    have hle : (gravesP gs (keyO p.2) fl).length ≤ gs.length := List.length_filter_le _ _
    refine ⟨by rw [insG_len]; omega, fun g hg2 => ?_⟩
    rcases insG_mem.1 hg2 with rfl | hg2
    · exact ⟨hp.1, hp.2.1, hp.2.2.1⟩
    · exact hg.2 g hg2
  · exact gravesP_wf h
  · exact gravesP_wf h
theorem apP_keep {ps : List PO} {gs : List Gr} {fl : Int} {kind : Int} {p : PO} {ver : Int} {qs : List PO} (hw1 : wfL ps) (hwo : wfS p.2) (hw2 : wfL qs) (hwg : wfG gs) (hl : ps.length ≤ 1000) (hgl : gs.length ≤ 80000) :
    wfL (apP ps gs fl kind p ver qs).2.2.1 ∧ wfG (apP ps gs fl kind p ver qs).2.2.2.1 ∧ (apP ps gs fl kind p ver qs).2.2.1.length ≤ 1000 ∧ (apP ps gs fl kind p ver qs).2.2.2.1.length ≤ gs.length + 1 ∧ (∀ q ∈ (apP ps gs fl kind p ver qs).2.2.1, q ∈ ps ∨ q = p ∨ q ∈ qs) ∧
    ((apP ps gs fl kind p ver qs).2.1 = [] ∨ ((apP ps gs fl kind p ver qs).2.1 = dlP ps (nxP ps gs fl kind p ver qs).1 ∧ (nxP ps gs fl kind p ver qs).1.length ≤ 1000)) := by
  have h0 : wfL ps ∧ wfG gs ∧ ps.length ≤ 1000 ∧ gs.length ≤ gs.length + 1 ∧ (∀ q ∈ ps, q ∈ ps ∨ q = p ∨ q ∈ qs) := ⟨hw1, hwg, hl, by omega, fun q hq => .inl hq⟩
  unfold apP
  split
  · exact ⟨h0.1, h0.2.1, h0.2.2.1, h0.2.2.2.1, h0.2.2.2.2, .inl rfl⟩
  split
  · exact ⟨h0.1, h0.2.1, h0.2.2.1, h0.2.2.2.1, h0.2.2.2.2, .inl rfl⟩
  split
  · exact ⟨h0.1, h0.2.1, h0.2.2.1, h0.2.2.2.1, h0.2.2.2.2, .inl rfl⟩
  · rename_i h3
    refine ⟨⟨by simp only; omega, fun q hq => ?_⟩, nxP_wfG hwg hwo hgl, by simp only; omega, nxP_len.2, nxP_mem, .inr ⟨rfl, by omega⟩⟩
    rcases nxP_mem q hq with h | rfl | h
    · exact hw1.2 q h
    · exact hwo
    · exact hw2.2 q h

/-- The document's Apply out of a longer heap. -/
theorem rapply2_ok {m : Nat} {w0 : World} {ps : List PO} {gs : List Gr} {fl : Int} {gc : Nat} {l : Hp} (h : RCh w0 ps gs fl gc l) (kind : Int) (p : PO) (ver : Int) (v2 : Value) (qs : List PO) (hwo : wfS p.2) (hw2 : wfL qs) (hl3 : qs.length ≤ 1000)
    (ho : ResAt w0 p.1 p.2.rs) (hv2 : ObjsAt w0 v2 qs) (R : Hp) :
    CallsH Tryz.prog ⟨w0.heap.size, w0, m⟩ 8 [.pointer (some ⟨gc, 0, none⟩), EV kind p ver v2] (l ++ R) (Applied gc (apP ps gs fl kind p ver qs) R) := by
  obtain ⟨h1, h2, h3, h4, v, u, lo, lg, rfl, hlo, hlg⟩ := h
  have hcall := rapply_ok (m := m) gc v ps u gs fl lo lg kind p ver v2 qs h2 hwo hw2 h3 h4 hl3 hlo hlg h1 ho hv2 R
  rw [List.cons_append, List.append_assoc]
  exact hcall
theorem wfD_of {ds es : List PD} (h : ds.map deD = es.map deD) (hw : wfD es) : wfD ds := by
  have hlen : ds.length = es.length := by have := congrArg List.length h; rwa [List.length_map, List.length_map] at this
  refine ⟨by rw [hlen]; exact hw.1, fun d hd => ?_⟩
  have : deD d ∈ es.map deD := by rw [← h]; exact List.mem_map.2 ⟨d, hd, rfl⟩
  obtain ⟨e, he, e1⟩ := List.mem_map.1 this
  have h1 : e.old.2 = d.old.2 := congrArg De.old e1
  have h2 : e.new.2 = d.new.2 := congrArg De.new e1
  rw [← h1, ← h2]
  exact hw.2 e he
/-- Deltas of both caches are one. -/
theorem same12 {n : Nat} {w0 w : World} {H R1 R2 ld ld2 : Hp} {dd : List PD} {rd rd2 : Value} (hw : RepH ⟨w0.heap.size, w0, n⟩ H w) (hD : DDels (dd.map deD) rd ld) (c1 : Cut H ld R1) (r2 : RowB 57 21 rd2 ld2 dd.length (dd.flatMap cellsD)) (c2 : Cut H ld2 R2)
    (hdd : ∀ d ∈ dd, ResAt w0 d.old.1 d.old.2.rs ∧ ResAt w0 d.new.1 d.new.2.rs) (hwd : wfD dd) : Calls Tryz.prog 9 #[rd, rd2] w fun e w' => e = .returned (.bool true) ∧ Below w.heap.size w w' := by
  obtain ⟨P, hP, hdel⟩ := dels_at hw hD c1
  have := rsameD_ok rd rd2 P dd (wfD_of hP hwd) hwd w hdel ⟨hw.oldr r2 c2, fun d hd => ⟨(hdd d hd).1.below hw.below, (hdd d hd).2.below hw.below⟩⟩
  rwa [decide_eq_true hP] at this
end Chm
end Go.Proofs.YtboimmfegeinaaaGreat
