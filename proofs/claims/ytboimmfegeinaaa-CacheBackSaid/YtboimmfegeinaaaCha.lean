/- What the document's answer for layer 8 does: an event is applied; conditions: names of at most 1,000 bytes, at most 1,000 objects. -/
import Derived.Test.YtboimmfegeinaaaChn
import Derived.Test.YtboimmfegeinaaaChd
namespace Go.Proofs.Ytboimmfegeinaaa
namespace Chm
open Go Go.RowKit Sx Lab Vec Ojt Evt
attribute [local irreducible] Go.Calls

theorem callsH2 {P : Program} {B m : Nat} {w0 : World} {f : FuncId} {fn : Func} {c : Code} {args : List Value} {n r s : Nat} {H : Hp} {K : Value → Hp → Prop}
    (hf : P.funcs[f]? = some fn) (hb : fn.body = some c) (hn : fn.ntmps = n) (hl : Nat.ble args.length n = true) (hr : fn.results = #[.tmp r, .tmp s])
    (h : aw P ⟨B, w0, n⟩ c (ret2 r s fun v u H' => ∃ H2 H1 : Hp, H2.Sublist H' ∧ H2.Perm H1 ∧ K (.tuple #[v, u]) H1) (tm0 args) H) : CallsH P ⟨B, w0, m⟩ f args H K := by
  intro w hh
  refine calls_of_wp hf hb ?_
  rw [hn]
  unfold aw at h
  refine Code.wp_mono (fun e a w' hq => ?_) (h { tmps := args.toArray ++ Array.replicate (n - args.toArray.size) undef, defers := [] } w (repT_start (B := B) (w0 := w0) args (by simpa [Nat.ble_eq] using hl)) hh.env)
  obtain ⟨t', H', r1, r2, q⟩ := hq
  unfold ret2 at q
  cases e with
  | normal =>
    obtain ⟨v, u, h1, h2, H2, H1, hs, hp, hk⟩ := q
    exact ⟨r1.1, _, by rw [results_tmp2 hr, r1.2.2 r v h1, r1.2.2 s u h2], _, H1, rfl, ((r2.sub hs).perm hp).env, hk⟩
  | ret =>
    obtain ⟨v, u, h1, h2, H2, H1, hs, hp, hk⟩ := q
    exact ⟨r1.1, _, by rw [results_tmp2 hr, r1.2.2 r v h1, r1.2.2 s u h2], _, H1, rfl, ((r2.sub hs).perm hp).env, hk⟩
  | exit _ => exact q.elim
  | goto _ => exact q.elim
  | panic _ => exact q.elim
  | outgrown => exact q.elim

theorem chAt_of {n : Nat} {w0 w : World} {H R1 R2 lo lg : Hp} {gc : Nat} {v u : Value} {ps : List PO} {gs : List Gr} {fl : Int} (h : RepH ⟨w0.heap.size, w0, n⟩ H w) (hb : Has H gc (.cells #[v, u, I fl] 51 (0, 0)))
    (hlo : RowB 40 8 v lo ps.length (ps.flatMap cellsO)) (c1 : Cut H lo R1) (hlg : RowB 147 4 u lg gs.length (gs.flatMap cellsG)) (c2 : Cut H lg R2) (hres : ∀ p ∈ ps, ResAt w0 p.1 p.2.rs) : ChAt w gc v ps u gs fl := by
  have hg := (h.has hb).2
  have hg2 : w.heap[gc]? = some (.cells (List.toArray [v, u, I fl]) 51 (0, 0)) := hg
  exact ⟨(Array.getElem?_eq_some_iff.1 hg).1, by rw [cell_of hg2]; rfl, by rw [cell_of hg2]; rfl, by rw [cell_of hg2]; rfl, objs_old h hlo c1 fun p hp => (hres p hp).below h.below, h.oldr hlg c2⟩

/-- What is known of an event's key, or the floor. -/
def lowP (ps : List PO) (gs : List Gr) (fl : Int) (kind : Int) (p : PO) : Int := if kind = 0 ∨ kind = 1 then knownC ps gs fl (keyO p.2) else fl
def apP (ps : List PO) (gs : List Gr) (fl : Int) (kind : Int) (p : PO) (ver : Int) (qs : List PO) : Int × List PD × (List PO × List Gr × Int) :=
  if rightE kind p.2 ver (obs qs) = false then (1, [], (ps, gs, fl))
  else if (versE kind p.2 ver (obs qs)).1 ≤ lowP ps gs fl kind p then (6, [], (ps, gs, fl))
  else if 1000 < (nxP ps gs fl kind p ver qs).1.length then (3, [], (ps, gs, fl))
  else (0, dlP ps (nxP ps gs fl kind p ver qs).1, nxP ps gs fl kind p ver qs)
abbrev stP (x : List PO × List Gr × Int) : St := ⟨obs x.1, x.2.1, x.2.2⟩
theorem apP_obs (ps : List PO) (gs : List Gr) (fl : Int) (kind : Int) (p : PO) (ver : Int) (qs : List PO) :
    apO ⟨obs ps, gs, fl⟩ kind p.2 ver (obs qs) = ((apP ps gs fl kind p ver qs).1, (apP ps gs fl kind p ver qs).2.1.map deD, stP (apP ps gs fl kind p ver qs).2.2) := by
  have hlow : lowO ⟨obs ps, gs, fl⟩ kind p.2 = lowP ps gs fl kind p := by
    unfold lowO lowP
    rw [knO_obs]
  unfold apO apP
  rw [hlow, nxP_obs]
  simp only [obs_len]
  by_cases h1 : rightE kind p.2 ver (obs qs) = false
  · rw [if_pos h1, if_pos h1]; rfl
  rw [if_neg h1, if_neg h1]
  by_cases h2 : (versE kind p.2 ver (obs qs)).1 ≤ lowP ps gs fl kind p
  · rw [if_pos h2, if_pos h2]; rfl
  rw [if_neg h2, if_neg h2]
  by_cases h3 : 1000 < (nxP ps gs fl kind p ver qs).1.length
  · rw [if_pos h3, if_pos h3]; rfl
  rw [if_neg h3, if_neg h3, dlP_is]
theorem nxP_mem {ps : List PO} {gs : List Gr} {fl : Int} {kind : Int} {p : PO} {ver : Int} {qs : List PO} : ∀ q ∈ (nxP ps gs fl kind p ver qs).1, q ∈ ps ∨ q = p ∨ q ∈ qs := by
  intro q hq
  unfold nxP at hq
  repeat' split at hq
  · exact (withP_mem hq).imp id .inl
  · exact .inl (List.mem_filter.1 hq).1
  · exact (rlP_mem.1 q hq).imp id .inr
  · exact .inl hq
theorem nxP_len {ps : List PO} {gs : List Gr} {fl : Int} {kind : Int} {p : PO} {ver : Int} {qs : List PO} : (nxP ps gs fl kind p ver qs).1.length ≤ ps.length + qs.length + 1 ∧ (nxP ps gs fl kind p ver qs).2.1.length ≤ gs.length + 1 := by
  have h1 : ∀ k f, (gravesP gs k f).length ≤ gs.length := fun k f => List.length_filter_le _ _
  unfold nxP
  repeat' split
  · have := withP_len (ps := ps) (p := p)
    have := h1 (keyO p.2) fl
    simp only; omega
  · have h2 : (withoutP ps (keyO p.2)).length ≤ ps.length := List.length_filter_le _ _
    have := h1 (keyO p.2) fl
    simp only [insG_len]; omega
  · have := (rlP_mem (ps := ps) (gs := gs) (fl := fl) (qs := qs) (ver := ver)).2
    have := h1 k0 ver
    simp only; omega
  · have := h1 k0 ver
    simp only; omega

/-- What an event leaves: what it hands back, and the cache. -/
def Applied (gc : Nat) (x : Int × List PD × (List PO × List Gr × Int)) (R : Hp) (r : Value) (H' : Hp) : Prop :=
  ∃ v u rd lo lg ld, r = .tuple #[rd, I x.1] ∧ H' = (gc, .cells #[v, u, I x.2.2.2.2] 51 (0, 0)) :: (lo ++ (lg ++ (ld ++ R))) ∧ RowB 40 8 v lo x.2.2.1.length (x.2.2.1.flatMap cellsO) ∧ RowB 147 4 u lg x.2.2.2.1.length (x.2.2.2.1.flatMap cellsG) ∧
    RowB 53 21 rd ld x.2.1.length (x.2.1.flatMap cellsD)

theorem permD {α : Type} (x : α) (a b d R : List α) : (d ++ (a ++ (b ++ (x :: R)))).Perm (x :: (a ++ (b ++ (d ++ R)))) := by
  have h1 : (d ++ (a ++ (b ++ (x :: R)))).Perm (x :: (d ++ (a ++ (b ++ R)))) := by
    have := List.perm_middle (l₁ := d ++ a ++ b) (a := x) (l₂ := R)
    simpa only [List.append_assoc] using this
  refine h1.trans (List.Perm.cons x ?_)
  rw [← List.append_assoc a, ← List.append_assoc a, ← List.append_assoc d, ← List.append_assoc (a ++ b)]
  exact List.Perm.append_right R List.perm_append_comm
theorem permE {α : Type} (x : α) (a b d R : List α) : (d ++ (b ++ (x :: (a ++ R)))).Perm (x :: (a ++ (b ++ (d ++ R)))) := by
  have h1 : (d ++ (b ++ (x :: (a ++ R)))).Perm (x :: (d ++ (b ++ (a ++ R)))) := by
    have := List.perm_middle (l₁ := d ++ b) (a := x) (l₂ := a ++ R)
    simpa only [List.append_assoc] using this
  refine h1.trans (List.Perm.cons x ?_)
  have h2 : (d ++ (b ++ (a ++ R))).Perm (d ++ (a ++ (b ++ R))) := List.Perm.append_left d (by rw [← List.append_assoc, ← List.append_assoc]; exact List.Perm.append_right R List.perm_append_comm)
  refine h2.trans ?_
  rw [← List.append_assoc a, ← List.append_assoc a, ← List.append_assoc d, ← List.append_assoc (a ++ b)]
  exact List.Perm.append_right R List.perm_append_comm
theorem sub3 {α : Type} (x y : α) (a b H : List α) : H.Sublist (x :: (a ++ (b ++ (y :: H)))) :=
  List.Sublist.cons _ (((List.Sublist.cons _ (List.Sublist.refl _)).trans (List.sublist_append_right b _)).trans (List.sublist_append_right a _))
theorem sub4 {α : Type} (x y : α) (b H : List α) : H.Sublist (x :: (b ++ (y :: H))) :=
  List.Sublist.cons _ ((List.Sublist.cons _ (List.Sublist.refl _)).trans (List.sublist_append_right b _))
end Chm
end Go.Proofs.Ytboimmfegeinaaa
