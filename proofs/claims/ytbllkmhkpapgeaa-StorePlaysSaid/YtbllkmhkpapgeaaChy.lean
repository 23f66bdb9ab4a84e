/- What the document's answer for layer 8 does with lists: deltas; conditions: names of at most 1,000 bytes, at most 1,000 objects. -/
import Derived.Test.YtbllkmhkpapgeaaChw
import Derived.Test.YtbllkmhkpapgeaaCsx
import Derived.Test.YtbllkmhkpapgeaaEvl
/- Chd: What the document's answer for layer 8 does with lists: deltas; conditions: names of at most 1,000 bytes, at most 1,000 objects. -/
namespace Go.Proofs.Ytbllkmhkpapgeaa
namespace Chm
open Go Go.RowKit Sx Lab Vec Ojt Evt
attribute [local irreducible] Go.Calls

/-- A delta, and where its charges lie. -/
structure PD where
  key : Kt
  had : Bool
  has : Bool
  old : PO
  new : PO
def cellsD (d : PD) : List Value := [S d.key.1, S d.key.2.1, S d.key.2.2, .bool d.had, .bool d.has, S d.old.2.k, S d.old.2.s, S d.old.2.n, I d.old.2.ver, S d.old.2.c, .bool d.old.2.tm, .bool d.old.2.bs, d.old.1,
  S d.new.2.k, S d.new.2.s, S d.new.2.n, I d.new.2.ver, S d.new.2.c, .bool d.new.2.tm, .bool d.new.2.bs, d.new.1]
theorem cellsD_len (d : PD) : (cellsD d).length = 21 := rfl
def deD (d : PD) : De := ⟨d.key, d.had, d.has, d.old.2, d.new.2⟩
abbrev zP : PO := (.slice none 0 0, zO)
def goneP (x : PO) : PD := ⟨keyO x.2, true, false, x, zP⟩
def cameP (y : PO) : PD := ⟨keyO y.2, false, true, zP, y⟩
def turnP (x y : PO) : PD := ⟨keyO x.2, true, true, x, y⟩
def dlP : List PO → List PO → List PD
  | [], [] => []
  | x :: a, [] => goneP x :: dlP a []
  | [], y :: b => cameP y :: dlP [] b
  | x :: a, y :: b => if lessO x.2 y.2 = true then goneP x :: dlP a (y :: b) else if lessO y.2 x.2 = true then cameP y :: dlP (x :: a) b else if x.2 = y.2 then dlP a b else turnP x y :: dlP a b
  termination_by a b => a.length + b.length
theorem dlP_is : ∀ (a b : List PO), (dlP a b).map deD = dlO (obs a) (obs b)
  | [], [] => by rw [dlP]; show [] = dlO [] []; rw [dlO]
  | x :: a, [] => by rw [dlP, List.map_cons, dlP_is a []]; show _ = dlO (x.2 :: obs a) []; rw [dlO]; rfl
  | [], y :: b => by rw [dlP, List.map_cons, dlP_is [] b]; show _ = dlO [] (y.2 :: obs b); rw [dlO]; rfl
  | x :: a, y :: b => by
    rw [dlP]
    show _ = dlO (x.2 :: obs a) (y.2 :: obs b)
    rw [dlO]
    by_cases h1 : lessO x.2 y.2 = true
    · rw [if_pos h1, if_pos h1, List.map_cons, dlP_is a (y :: b)]; rfl
    · rw [if_neg h1, if_neg h1]
      by_cases h2 : lessO y.2 x.2 = true
      · rw [if_pos h2, if_pos h2, List.map_cons, dlP_is (x :: a) b]; rfl
      · rw [if_neg h2, if_neg h2]
        by_cases h3 : x.2 = y.2
        · rw [if_pos h3, if_pos h3, dlP_is a b]
        · rw [if_neg h3, if_neg h3, List.map_cons, dlP_is a b]; rfl
  termination_by a b => a.length + b.length
theorem dlP_len : ∀ (a b : List PO), (dlP a b).length ≤ a.length + b.length
  | [], [] => by rw [dlP]; exact Nat.le_refl _
  | x :: a, [] => by rw [dlP, List.length_cons, List.length_cons]; have := dlP_len a []; omega
  | [], y :: b => by rw [dlP, List.length_cons, List.length_cons]; have := dlP_len [] b; omega
  | x :: a, y :: b => by
    rw [dlP]
    have h1 := dlP_len a (y :: b)
    have h2 := dlP_len (x :: a) b
    have h3 := dlP_len a b
    simp only [List.length_cons] at h1 h2 ⊢
    repeat' split
    all_goals (try rw [List.length_cons]); omega
  termination_by a b => a.length + b.length
/-- Where a delta's charges come from. -/
theorem dlP_mem : ∀ (a b : List PO), ∀ d ∈ dlP a b, (d.old = zP ∨ d.old ∈ a) ∧ (d.new = zP ∨ d.new ∈ b)
  | [], [] => by rw [dlP]; intro d h; cases h
  | x :: a, [] => by
    rw [dlP]
    intro d h
    rcases List.mem_cons.1 h with rfl | h
    · exact ⟨.inr List.mem_cons_self, .inl rfl⟩
    · exact (dlP_mem a [] d h).imp (Or.imp id (List.mem_cons_of_mem x)) id
  | [], y :: b => by
    rw [dlP]
    intro d h
    rcases List.mem_cons.1 h with rfl | h
    · exact ⟨.inl rfl, .inr List.mem_cons_self⟩
    · exact (dlP_mem [] b d h).imp id (Or.imp id (List.mem_cons_of_mem y))
  | x :: a, y :: b => by
    rw [dlP]
    have h1 := dlP_mem a (y :: b)
    have h2 := dlP_mem (x :: a) b
    have h3 := dlP_mem a b
    have up : ∀ d : PD, ((d.old = zP ∨ d.old ∈ a) ∧ (d.new = zP ∨ d.new ∈ b)) → (d.old = zP ∨ d.old ∈ x :: a) ∧ (d.new = zP ∨ d.new ∈ y :: b) := fun d h => h.imp (Or.imp id (List.mem_cons_of_mem x)) (Or.imp id (List.mem_cons_of_mem y))
    intro d h
    repeat' split at h
    · rcases List.mem_cons.1 h with rfl | h
      · exact ⟨.inr List.mem_cons_self, .inl rfl⟩
      · exact (h1 d h).imp (Or.imp id (List.mem_cons_of_mem x)) id
    · rcases List.mem_cons.1 h with rfl | h
      · exact ⟨.inl rfl, .inr List.mem_cons_self⟩
      · exact (h2 d h).imp id (Or.imp id (List.mem_cons_of_mem y))
    · exact up d (h3 d h)
    · rcases List.mem_cons.1 h with rfl | h
      · exact ⟨.inr List.mem_cons_self, .inr List.mem_cons_self⟩
      · exact up d (h3 d h)
  termination_by a b => a.length + b.length
theorem drow_o {v : Value} {k : Hp} {os : List PD} {d : PD} {e : TypeId} (h : RowB e 21 v k (os.length + 1) (os.flatMap cellsD ++ cellsD d)) : RowB e 21 v k (os ++ [d]).length ((os ++ [d]).flatMap cellsD) := by
  rw [List.length_append, List.flatMap_append]
  simpa using h

end Chm
end Go.Proofs.Ytbllkmhkpapgeaa
/- Chr: What the document's answer for layer 8 does: a relist; conditions: names of at most 1,000 bytes, at most 19,999 objects. -/
namespace Go.Proofs.Ytbllkmhkpapgeaa
namespace Chm
open Go Go.RowKit Sx Lab Vec Ojt Evt
attribute [local irreducible] Go.Calls

theorem getO_obs (ps : List PO) (k : Kt) : getO (obs ps) k = (findK ps k).map (·.2) := by
  unfold getO findK
  rw [List.find?_map]
  rfl
theorem hasO_obs (ps : List PO) (k : Kt) : hasO (obs ps) k = hasK ps k := by
  unfold hasO hasK
  rw [List.any_map]
  rfl
theorem woO_obs (ps : List PO) (k : Kt) : woO (obs ps) k = obs (withoutP ps k) := by
  unfold woO withoutP
  rw [List.filter_map]
  rfl
theorem wiO_obs (ps : List PO) (p : PO) : wiO (obs ps) p.2 = obs (withP ps p) := by
  unfold wiO withP
  rw [obs_sort, woO_obs]
  congr 1
  exact (List.map_append (f := fun p : PO => p.2) (l₁ := withoutP ps (keyO p.2)) (l₂ := [p])).symm
theorem knO_obs (ps : List PO) (gs : List Gr) (fl : Int) (k : Kt) : knO ⟨obs ps, gs, fl⟩ k = knownC ps gs fl k := by
  unfold knO knownC
  simp only [getO_obs]
  cases findK ps k <;> rfl
theorem withP_mem {ps : List PO} {p q : PO} (h : q ∈ withP ps p) : q ∈ ps ∨ q = p := by
  rcases List.mem_append.1 (sort_mem h) with h | h
  · exact .inl (List.mem_filter.1 h).1
  · exact .inr (List.mem_singleton.1 h)
theorem withP_len {ps : List PO} {p : PO} : (withP ps p).length ≤ ps.length + 1 := by
  unfold withP
  rw [sort_len, List.length_append, List.length_singleton]
  have : (withoutP ps (keyO p.2)).length ≤ ps.length := List.length_filter_le _ _
  omega
/-- Does a relist's object take its key's place? -/
def takesP (ps : List PO) (gs : List Gr) (fl : Int) (q : PO) : Bool := decide (knownC ps gs fl (keyO q.2) < q.2.ver) || (match findK ps (keyO q.2) with | some own => own.2.ver == q.2.ver | none => false)
theorem takes_obs (ps : List PO) (gs : List Gr) (fl : Int) (q : PO) : takesO ⟨obs ps, gs, fl⟩ q.2 = takesP ps gs fl q := by
  unfold takesO takesP
  rw [knO_obs]
  simp only [getO_obs]
  cases findK ps (keyO q.2) <;> rfl
def rlBase (ps qs : List PO) (ver : Int) : List PO := ps.filter fun p => hasK qs (keyO p.2) || decide (ver < p.2.ver)
def rlP (ps : List PO) (gs : List Gr) (fl : Int) (qs : List PO) (ver : Int) : List PO := qs.foldl (fun out q => if takesP ps gs fl q = true then withP out q else out) (rlBase ps qs ver)
theorem rlP_obs (ps : List PO) (gs : List Gr) (fl : Int) (qs : List PO) (ver : Int) : obs (rlP ps gs fl qs ver) = rlO ⟨obs ps, gs, fl⟩ (obs qs) ver := by
  have key : ∀ (l outs : List PO), obs (l.foldl (fun out q => if takesP ps gs fl q = true then withP out q else out) outs) = (obs l).foldl (rlStep ⟨obs ps, gs, fl⟩) (obs outs) := fun l => by
    induction l with
    | nil => intro outs; rfl
    | cons q l ih =>
      intro outs
      rw [List.foldl_cons, ih]
      show _ = (obs l).foldl _ (rlStep ⟨obs ps, gs, fl⟩ (obs outs) q.2)
      congr 1
      unfold rlStep
      rw [takes_obs, wiO_obs]
      split <;> rfl
  unfold rlP rlO
  rw [key]
  congr 1
  unfold rlBase
  simp only [hasO_obs]
  rw [List.filter_map]
  rfl
theorem rlP_mem {ps : List PO} {gs : List Gr} {fl : Int} {qs : List PO} {ver : Int} : (∀ p ∈ rlP ps gs fl qs ver, p ∈ ps ∨ p ∈ qs) ∧ (rlP ps gs fl qs ver).length ≤ ps.length + qs.length := by
  have key : ∀ (l outs : List PO), (∀ p ∈ l.foldl (fun out q => if takesP ps gs fl q = true then withP out q else out) outs, p ∈ outs ∨ p ∈ l) ∧ (l.foldl (fun out q => if takesP ps gs fl q = true then withP out q else out) outs).length ≤ outs.length + l.length := fun l => by
    induction l with
    | nil => intro outs; exact ⟨fun p h => .inl h, Nat.le_refl _⟩
    | cons q l ih =>
      intro outs
      rw [List.foldl_cons]
      by_cases ht : takesP ps gs fl q = true
      · rw [if_pos ht]
        obtain ⟨h1, h2⟩ := ih (withP outs q)
        have := withP_len (ps := outs) (p := q)
        refine ⟨fun p hp => ?_, by rw [List.length_cons]; omega⟩
        rcases h1 p hp with h | h
        · rcases withP_mem h with h | rfl
          · exact .inl h
          · exact .inr List.mem_cons_self
        · exact .inr (List.mem_cons_of_mem q h)
      · rw [if_neg ht]
        obtain ⟨h1, h2⟩ := ih outs
        refine ⟨fun p hp => ?_, by rw [List.length_cons]; omega⟩
        rcases h1 p hp with h | h
        · exact .inl h
        · exact .inr (List.mem_cons_of_mem q h)
  obtain ⟨h1, h2⟩ := key qs (rlBase ps qs ver)
  have hb : (rlBase ps qs ver).length ≤ ps.length := List.length_filter_le _ _
  refine ⟨fun p hp => ?_, by unfold rlP; omega⟩
  rcases h1 p hp with h | h
  · exact .inl (List.mem_filter.1 h).1
  · exact .inr h
theorem ChAt.below {w w' : World} {gc : Nat} {v u : Value} {ps : List PO} {gs : List Gr} {fl : Int} (h : ChAt w gc v ps u gs fl) (hb : Below w.heap.size w w') : ChAt w' gc v ps u gs fl := by
  obtain ⟨h1, h2, h3, h4, h5, h6⟩ := h
  exact ⟨Nat.lt_of_lt_of_le h1 hb.size, (hb.cell h1).trans h2, (hb.cell h1).trans h3, (hb.cell h1).trans h4, h5.below hb, OldRow.below h6 hb⟩

end Chm
end Go.Proofs.Ytbllkmhkpapgeaa
/- Chn: What the document's answer for layer 8 does: what is there behind an event; conditions: names of at most 1,000 bytes, at most 19,999 objects. -/
namespace Go.Proofs.Ytbllkmhkpapgeaa
namespace Chm
open Go Go.RowKit Sx Lab Vec Ojt Evt
attribute [local irreducible] Go.Calls

/-- Short names of graves. -/
def wfG (gs : List Gr) : Prop := gs.length ≤ 90000 ∧ ∀ g ∈ gs, g.1.1.length ≤ 1000 ∧ g.1.2.1.length ≤ 1000 ∧ g.1.2.2.length ≤ 1000
def nxP (ps : List PO) (gs : List Gr) (fl : Int) (kind : Int) (p : PO) (ver : Int) (qs : List PO) : List PO × List Gr × Int :=
  if kind = 0 then (withP ps p, gravesP gs (keyO p.2) fl, fl)
  else if kind = 1 then (withoutP ps (keyO p.2), insG (keyO p.2, p.2.ver) (gravesP gs (keyO p.2) fl), fl)
  else if kind = 2 then (rlP ps gs fl qs ver, gravesP gs k0 ver, ver)
  else (ps, gravesP gs k0 ver, ver)
theorem nxP_obs (ps : List PO) (gs : List Gr) (fl : Int) (kind : Int) (p : PO) (ver : Int) (qs : List PO) :
    nxO ⟨obs ps, gs, fl⟩ kind p.2 ver (obs qs) = ⟨obs (nxP ps gs fl kind p ver qs).1, (nxP ps gs fl kind p ver qs).2.1, (nxP ps gs fl kind p ver qs).2.2⟩ := by
  unfold nxO nxP
  by_cases h0 : kind = 0
  · rw [if_pos h0, if_pos h0]; simp only [wiO_obs]
  rw [if_neg h0, if_neg h0]
  by_cases h1 : kind = 1
  · rw [if_pos h1, if_pos h1]; simp only [woO_obs]
  rw [if_neg h1, if_neg h1]
  by_cases h2 : kind = 2
  · rw [if_pos h2, if_pos h2]; simp only [rlP_obs]
  rw [if_neg h2, if_neg h2]
theorem permA {α : Type} (x : α) (a b R : List α) : (x :: (b ++ (a ++ R))).Perm ((x :: (a ++ b)) ++ R) := by
  refine List.Perm.cons x ?_
  rw [← List.append_assoc]
  exact List.Perm.append_right R List.perm_append_comm
theorem permB {α : Type} (x : α) (a b R : List α) : (x :: (a ++ (b ++ R))).Perm ((x :: (a ++ b)) ++ R) := by
  refine List.Perm.cons x ?_
  rw [← List.append_assoc]
  exact List.Perm.refl _
theorem permC {α : Type} (x : α) (b R : List α) : (x :: (b ++ R)).Perm ((x :: ([] ++ b)) ++ R) := List.Perm.refl _
theorem grow_o2 {v : Value} {k : Hp} {os : List Gr} {g g2 : Gr} {e : TypeId} (h : RowB e 4 v k (os.length + 1 + 1) (os.flatMap cellsG ++ [S g.1.1, S g.1.2.1, S g.1.2.2, I g.2] ++ [S g2.1.1, S g2.1.2.1, S g2.1.2.2, I g2.2])) : RowB e 4 v k (os ++ [g] ++ [g2]).length ((os ++ [g] ++ [g2]).flatMap cellsG) := by
  rw [List.length_append, List.length_append, List.flatMap_append, List.flatMap_append]
  simpa [cellsG] using h
theorem insG_len (g : Gr) : ∀ (l : List Gr), (insG g l).length = l.length + 1
  | [] => rfl
  | y :: r => by
    unfold insG
    split
    · rfl
    · rw [List.length_cons, insG_len g r, List.length_cons]

end Chm
end Go.Proofs.Ytbllkmhkpapgeaa
/- Cha: What the document's answer for layer 8 does: an event is applied; conditions: names of at most 1,000 bytes, at most 1,000 objects. -/
namespace Go.Proofs.Ytbllkmhkpapgeaa
namespace Chm
open Go Go.RowKit Sx Lab Vec Ojt Evt
attribute [local irreducible] Go.Calls

theorem callsH2 {P : Program} {B m : Nat} {w0 : World} {f : FuncId} {fn : Func} {c : Code} {args : List Value} {n r s : Nat} {H : Hp} {K : Value → Hp → Prop}
    (hf : P.funcs[f]? = some fn) (hb : fn.body = some c) (hn : fn.ntmps = n) (hl : Nat.ble args.length n = true) (hr : fn.results = #[.tmp r, .tmp s])
    (h : aw P ⟨B, w0, n⟩ c (ret2 r s fun v u H' => ∃ H2 H1 : Hp, H2.Sublist H' ∧ H2.Perm H1 ∧ K (.tuple #[v, u]) H1) (tm0 args) H) : CallsH P ⟨B, w0, m⟩ f args H K := by
  intro w hh
  refine calls_of_wp hf hb ?_
  rw [hn]
  unfold aw at h
  refine Code.wp_mono (fun e a w' hq => ?_) (h { tmps := args.toArray ++ Array.replicate (n - args.toArray.size) undef, defers := [] } w (repT_start (B := B) (w0 := w0) args (by simpa [Nat.ble_eq] using hl)) hh.env)
  obtain ⟨t', H', r1, r2, q⟩ := hq
  unfold ret2 at q
  cases e with
  | normal =>
    obtain ⟨v, u, h1, h2, H2, H1, hs, hp, hk⟩ := q
    exact ⟨r1.1, _, by rw [results_tmp2 hr, r1.2.2 r v h1, r1.2.2 s u h2], _, H1, rfl, ((r2.sub hs).perm hp).env, hk⟩
  | ret =>
    obtain ⟨v, u, h1, h2, H2, H1, hs, hp, hk⟩ := q
    exact ⟨r1.1, _, by rw [results_tmp2 hr, r1.2.2 r v h1, r1.2.2 s u h2], _, H1, rfl, ((r2.sub hs).perm hp).env, hk⟩
  | exit _ => exact q.elim
  | goto _ => exact q.elim
  | panic _ => exact q.elim
  | outgrown => exact q.elim

/-- What is known of an event's key, or the floor. -/
def lowP (ps : List PO) (gs : List Gr) (fl : Int) (kind : Int) (p : PO) : Int := if kind = 0 ∨ kind = 1 then knownC ps gs fl (keyO p.2) else fl
def apP (ps : List PO) (gs : List Gr) (fl : Int) (kind : Int) (p : PO) (ver : Int) (qs : List PO) : Int × List PD × (List PO × List Gr × Int) :=
  if rightE kind p.2 ver (obs qs) = false then (1, [], (ps, gs, fl))
  else if (versE kind p.2 ver (obs qs)).1 ≤ lowP ps gs fl kind p then (6, [], (ps, gs, fl))
  else if 1000 < (nxP ps gs fl kind p ver qs).1.length then (3, [], (ps, gs, fl))
  else (0, dlP ps (nxP ps gs fl kind p ver qs).1, nxP ps gs fl kind p ver qs)
abbrev stP (x : List PO × List Gr × Int) : St := ⟨obs x.1, x.2.1, x.2.2⟩
theorem apP_obs (ps : List PO) (gs : List Gr) (fl : Int) (kind : Int) (p : PO) (ver : Int) (qs : List PO) :
    apO ⟨obs ps, gs, fl⟩ kind p.2 ver (obs qs) = ((apP ps gs fl kind p ver qs).1, (apP ps gs fl kind p ver qs).2.1.map deD, stP (apP ps gs fl kind p ver qs).2.2) := by
  have hlow : lowO ⟨obs ps, gs, fl⟩ kind p.2 = lowP ps gs fl kind p := by
    unfold lowO lowP
    rw [knO_obs]
  unfold apO apP
  rw [hlow, nxP_obs]
  simp only [obs_len]
  by_cases h1 : rightE kind p.2 ver (obs qs) = false
  · rw [if_pos h1, if_pos h1]; rfl
  rw [if_neg h1, if_neg h1]
  by_cases h2 : (versE kind p.2 ver (obs qs)).1 ≤ lowP ps gs fl kind p
  · rw [if_pos h2, if_pos h2]; rfl
  rw [if_neg h2, if_neg h2]
  by_cases h3 : 1000 < (nxP ps gs fl kind p ver qs).1.length
  · rw [if_pos h3, if_pos h3]; rfl
  rw [if_neg h3, if_neg h3, dlP_is]
theorem nxP_mem {ps : List PO} {gs : List Gr} {fl : Int} {kind : Int} {p : PO} {ver : Int} {qs : List PO} : ∀ q ∈ (nxP ps gs fl kind p ver qs).1, q ∈ ps ∨ q = p ∨ q ∈ qs := by
  intro q hq
  unfold nxP at hq
  repeat' split at hq
  · exact (withP_mem hq).imp id .inl
  · exact .inl (List.mem_filter.1 hq).1
  · exact (rlP_mem.1 q hq).imp id .inr
  · exact .inl hq
theorem nxP_len {ps : List PO} {gs : List Gr} {fl : Int} {kind : Int} {p : PO} {ver : Int} {qs : List PO} : (nxP ps gs fl kind p ver qs).1.length ≤ ps.length + qs.length + 1 ∧ (nxP ps gs fl kind p ver qs).2.1.length ≤ gs.length + 1 := by
  have h1 : ∀ k f, (gravesP gs k f).length ≤ gs.length := fun k f => List.length_filter_le _ _
  unfold nxP
  repeat' split
  · have := withP_len (ps := ps) (p := p)
    have := h1 (keyO p.2) fl
    simp only; omega
  · have h2 : (withoutP ps (keyO p.2)).length ≤ ps.length := List.length_filter_le _ _
    have := h1 (keyO p.2) fl
    simp only [insG_len]; omega
  · have := (rlP_mem (ps := ps) (gs := gs) (fl := fl) (qs := qs) (ver := ver)).2
    have := h1 k0 ver
    simp only; omega
  · have := h1 k0 ver
    simp only; omega

theorem permD {α : Type} (x : α) (a b d R : List α) : (d ++ (a ++ (b ++ (x :: R)))).Perm (x :: (a ++ (b ++ (d ++ R)))) := by
  have h1 : (d ++ (a ++ (b ++ (x :: R)))).Perm (x :: (d ++ (a ++ (b ++ R)))) := by
    have := List.perm_middle (l₁ := d ++ a ++ b) (a := x) (l₂ := R)
    simpa only [List.append_assoc] using this
  refine h1.trans (List.Perm.cons x ?_)
  rw [← List.append_assoc a, ← List.append_assoc a, ← List.append_assoc d, ← List.append_assoc (a ++ b)]
  exact List.Perm.append_right R List.perm_append_comm
theorem permE {α : Type} (x : α) (a b d R : List α) : (d ++ (b ++ (x :: (a ++ R)))).Perm (x :: (a ++ (b ++ (d ++ R)))) := by
  have h1 : (d ++ (b ++ (x :: (a ++ R)))).Perm (x :: (d ++ (b ++ (a ++ R)))) := by
    have := List.perm_middle (l₁ := d ++ b) (a := x) (l₂ := a ++ R)
    simpa only [List.append_assoc] using this
  refine h1.trans (List.Perm.cons x ?_)
  have h2 : (d ++ (b ++ (a ++ R))).Perm (d ++ (a ++ (b ++ R))) := List.Perm.append_left d (by rw [← List.append_assoc, ← List.append_assoc]; exact List.Perm.append_right R List.perm_append_comm)
  refine h2.trans ?_
  rw [← List.append_assoc a, ← List.append_assoc a, ← List.append_assoc d, ← List.append_assoc (a ++ b)]
  exact List.Perm.append_right R List.perm_append_comm
theorem sub3 {α : Type} (x y : α) (a b H : List α) : H.Sublist (x :: (a ++ (b ++ (y :: H)))) :=
  List.Sublist.cons _ (((List.Sublist.cons _ (List.Sublist.refl _)).trans (List.sublist_append_right b _)).trans (List.sublist_append_right a _))
theorem sub4 {α : Type} (x y : α) (b H : List α) : H.Sublist (x :: (b ++ (y :: H))) :=
  List.Sublist.cons _ ((List.Sublist.cons _ (List.Sublist.refl _)).trans (List.sublist_append_right b _))
end Chm
end Go.Proofs.Ytbllkmhkpapgeaa
/- Che: What the document's answer for layer 8 does with lists: sameness of deltas, keys of graves; conditions: names of at most 1,000 bytes, at most 100,000 entries. -/
namespace Go.Proofs.Ytbllkmhkpapgeaa
namespace Chm
open Go Go.RowKit Sx Lab Vec Ojt Evt
attribute [local irreducible] Go.Calls

/-- Deltas that came in. -/
def DelAt (w : World) (v : Value) (ds : List PD) : Prop := OldRow w 21 v ds.length (ds.flatMap cellsD) ∧ ∀ d ∈ ds, ResAt w d.old.1 d.old.2.rs ∧ ResAt w d.new.1 d.new.2.rs
theorem DelAt.below {w w' : World} {v : Value} {ds : List PD} (h : DelAt w v ds) (hb : Below w.heap.size w w') : DelAt w' v ds := ⟨OldRow.below h.1 hb, fun d hd => ⟨(h.2 d hd).1.below hb, (h.2 d hd).2.below hb⟩⟩
def wfD (ds : List PD) : Prop := ds.length ≤ 100000 ∧ ∀ d ∈ ds, wfS d.old.2 ∧ wfS d.new.2
theorem del_parts {w : World} {g b : Nat} {key : Kt} {had has : Bool} {x y : Value} {o n : Ob} (hc : ∀ (j : Nat) z, (cellsD ⟨key, had, has, (x, o), (y, n)⟩)[j]? = some z → w.cell? ⟨g, b + j, none⟩ = some z) :
    (∀ (j : Nat) z, [S key.1, S key.2.1, S key.2.2][j]? = some z → w.cell? ⟨g, b + 0 + j, none⟩ = some z) ∧ w.cell? ⟨g, b + 3, none⟩ = some (.bool had) ∧ w.cell? ⟨g, b + 4, none⟩ = some (.bool has) ∧
    (∀ (j : Nat) z, [S o.k, S o.s, S o.n, I o.ver, S o.c, .bool o.tm, .bool o.bs, x][j]? = some z → w.cell? ⟨g, b + 5 + j, none⟩ = some z) ∧ (∀ (j : Nat) z, [S n.k, S n.s, S n.n, I n.ver, S n.c, .bool n.tm, .bool n.bs, y][j]? = some z → w.cell? ⟨g, b + 13 + j, none⟩ = some z) := by
  refine ⟨fun j z hj => hc j z ?_, hc 3 _ rfl, hc 4 _ rfl, fun j z hj => ?_, fun j z hj => ?_⟩
  · rcases j with _ | _ | _ | j <;> first | exact hj | simp at hj
  · rw [Nat.add_assoc]
    refine hc (5 + j) z ?_
    rcases j with _ | _ | _ | _ | _ | _ | _ | _ | j <;> first | exact hj | simp at hj
  · rw [Nat.add_assoc]
    refine hc (13 + j) z ?_
    rcases j with _ | _ | _ | _ | _ | _ | _ | _ | j <;> first | exact hj | simp at hj

def cellsK (k : Kt) : List Value := [S k.1, S k.2.1, S k.2.2]
theorem cellsK_len (k : Kt) : (cellsK k).length = 3 := rfl
end Chm
end Go.Proofs.Ytbllkmhkpapgeaa
/- Chf: Lists of events, and which are gone through, of layer 8; conditions: none. -/
namespace Go.Proofs.Ytbllkmhkpapgeaa
namespace Chm
open Go Go.RowKit Sx Lab Vec Ojt Evt
attribute [local irreducible] Go.Calls

/-- An event, and where its charges and its objects lie. -/
structure PE where
  kind : Int
  p : PO
  ver : Int
  v : Value
  qs : List PO
def cellsE (e : PE) : List Value := [I e.kind, S e.p.2.k, S e.p.2.s, S e.p.2.n, I e.p.2.ver, S e.p.2.c, .bool e.p.2.tm, .bool e.p.2.bs, e.p.1, I e.ver, e.v]
theorem cellsE_len (e : PE) : (cellsE e).length = 11 := rfl
def evE (e : PE) : Ev := ⟨e.kind, e.p.2, e.ver, obs e.qs⟩
/-- Events that came in. -/
def EvsAt (w : World) (v : Value) (es : List PE) : Prop := OldRow w 11 v es.length (es.flatMap cellsE) ∧ ∀ e ∈ es, ResAt w e.p.1 e.p.2.rs ∧ ObjsAt w e.v e.qs
theorem EvsAt.below {w w' : World} {v : Value} {es : List PE} (h : EvsAt w v es) (hb : Below w.heap.size w w') : EvsAt w' v es := ⟨OldRow.below h.1 hb, fun e he => ⟨(h.2 e he).1.below hb, (h.2 e he).2.below hb⟩⟩
/-- Numbers that fit. -/
def numE (e : PE) : Prop := numR e.p.2.rs ∧ ∀ q ∈ e.qs, numR q.2.rs
def fitEs (es : List PE) : Bool := decide (es.length ≤ 60) && es.all fun e => fitE e.p.2 e.qs
theorem fitEs_wf {es : List PE} (h : fitEs es = true) (hn : ∀ e ∈ es, numE e) : es.length ≤ 60 ∧ ∀ e ∈ es, wfS e.p.2 ∧ wfL e.qs ∧ e.qs.length ≤ 60 := by
  unfold fitEs at h
  rw [Bool.and_eq_true, decide_eq_true_eq, List.all_eq_true] at h
  exact ⟨h.1, fun e he => fitE_wf (h.2 e he) (hn e he).1 (hn e he).2⟩

end Chm
end Go.Proofs.Ytbllkmhkpapgeaa
/- Chy: Deltas in new memory; where parts of the own heap lie; the document's Apply as a call out of a longer heap; conditions: none. -/
namespace Go.Proofs.Ytbllkmhkpapgeaa
namespace Chm
open Go Go.RowKit Sx Lab Vec Ojt Evt
attribute [local irreducible] Go.Calls

/-- These blocks lie in a world. -/
def Lies (w : World) (l : Hp) : Prop := ∀ b o, (b, o) ∈ l → w.heap[b]? = some o
theorem lies_of {E : Env} {H l R : Hp} {w : World} (h : RepH E H w) (hc : Cut H l R) : Lies w l := fun b o hm => ((h.perm hc).at_ b o (List.mem_append_left _ hm)).2
/-- Deltas in new memory. -/
def KD (d : PD) (l : Hp) : Prop := ∃ l1 l2, l = l1 ++ l2 ∧ KO d.old l1 ∧ KO d.new l2
def DDels (ds : List De) (v : Value) (l : Hp) : Prop := ∃ (ps : List PD) (l0 ls : Hp), ps.map deD = ds ∧ l = l0 ++ ls ∧ RowB 98 21 v l0 ps.length (ps.flatMap cellsD) ∧ Parts KD ls ps
theorem dels_at {E : Env} {H R l : Hp} {w : World} {v : Value} {ds : List De} (h : RepH E H w) (hd : DDels ds v l) (hc : Cut H l R) : ∃ ps, ps.map deD = ds ∧ DelAt w v ps := by
  obtain ⟨ps, l0, ls, h1, rfl, h3, h4⟩ := hd
  refine ⟨ps, h1, h.oldr h3 hc.fst, fun d hd => ?_⟩
  obtain ⟨l, R', hc2, l1, l2, rfl, k1, k2⟩ := h4.at hd
  have hc3 := hc.snd.trans hc2
  exact ⟨h.oldr k1 hc3.fst, h.oldr k2 hc3.snd⟩
/-- What is known of a key fits. -/
theorem gravesP_wf {gs : List Gr} {k : Kt} {fl : Int} (h : wfG gs) : wfG (gravesP gs k fl) := ⟨by have : (gravesP gs k fl).length ≤ gs.length := List.length_filter_le _ _; have := h.1; omega, fun g hg => h.2 g (gravesP_mem.1 hg).1⟩
theorem nxP_wfG {ps : List PO} {gs : List Gr} {fl : Int} {kind : Int} {p : PO} {ver : Int} {qs : List PO} (h : wfG gs) (hp : wfS p.2) (hl : gs.length ≤ 80000) : wfG (nxP ps gs fl kind p ver qs).2.1 := by
  unfold nxP
  repeat' split
  · exact gravesP_wf h
  · have hg := gravesP_wf (k := keyO p.2) (fl := fl) h
    have hle : (gravesP gs (keyO p.2) fl).length ≤ gs.length := List.length_filter_le _ _
    refine ⟨by rw [insG_len]; omega, fun g hg2 => ?_⟩
    rcases insG_mem.1 hg2 with rfl | hg2
    · exact ⟨hp.1, hp.2.1, hp.2.2.1⟩
    · exact hg.2 g hg2
  · exact gravesP_wf h
  · exact gravesP_wf h
theorem apP_keep {ps : List PO} {gs : List Gr} {fl : Int} {kind : Int} {p : PO} {ver : Int} {qs : List PO} (hw1 : wfL ps) (hwo : wfS p.2) (hw2 : wfL qs) (hwg : wfG gs) (hl : ps.length ≤ 1000) (hgl : gs.length ≤ 80000) :
    wfL (apP ps gs fl kind p ver qs).2.2.1 ∧ wfG (apP ps gs fl kind p ver qs).2.2.2.1 ∧ (apP ps gs fl kind p ver qs).2.2.1.length ≤ 1000 ∧ (apP ps gs fl kind p ver qs).2.2.2.1.length ≤ gs.length + 1 ∧ (∀ q ∈ (apP ps gs fl kind p ver qs).2.2.1, q ∈ ps ∨ q = p ∨ q ∈ qs) ∧
    ((apP ps gs fl kind p ver qs).2.1 = [] ∨ ((apP ps gs fl kind p ver qs).2.1 = dlP ps (nxP ps gs fl kind p ver qs).1 ∧ (nxP ps gs fl kind p ver qs).1.length ≤ 1000)) := by
  have h0 : wfL ps ∧ wfG gs ∧ ps.length ≤ 1000 ∧ gs.length ≤ gs.length + 1 ∧ (∀ q ∈ ps, q ∈ ps ∨ q = p ∨ q ∈ qs) := ⟨hw1, hwg, hl, by omega, fun q hq => .inl hq⟩
  unfold apP
  split
  · exact ⟨h0.1, h0.2.1, h0.2.2.1, h0.2.2.2.1, h0.2.2.2.2, .inl rfl⟩
  split
  · exact ⟨h0.1, h0.2.1, h0.2.2.1, h0.2.2.2.1, h0.2.2.2.2, .inl rfl⟩
  split
  · exact ⟨h0.1, h0.2.1, h0.2.2.1, h0.2.2.2.1, h0.2.2.2.2, .inl rfl⟩
  · rename_i h3
    refine ⟨⟨by simp only; omega, fun q hq => ?_⟩, nxP_wfG hwg hwo hgl, by simp only; omega, nxP_len.2, nxP_mem, .inr ⟨rfl, by omega⟩⟩
    rcases nxP_mem q hq with h | rfl | h
    · exact hw1.2 q h
    · exact hwo
    · exact hw2.2 q h

theorem wfD_of {ds es : List PD} (h : ds.map deD = es.map deD) (hw : wfD es) : wfD ds := by
  have hlen : ds.length = es.length := by have := congrArg List.length h; rwa [List.length_map, List.length_map] at this
  refine ⟨by rw [hlen]; exact hw.1, fun d hd => ?_⟩
  have : deD d ∈ es.map deD := by rw [← h]; exact List.mem_map.2 ⟨d, hd, rfl⟩
  obtain ⟨e, he, e1⟩ := List.mem_map.1 this
  have h1 : e.old.2 = d.old.2 := congrArg De.old e1
  have h2 : e.new.2 = d.new.2 := congrArg De.new e1
  rw [← h1, ← h2]
  exact hw.2 e he
end Chm
end Go.Proofs.Ytbllkmhkpapgeaa
