/- What a cache is, and becomes, as lists of objects and graves: the document's answer for layer 8; conditions: none. -/
import Derived.Test.YtbllkmhkpapgeaaChw
import Derived.Test.YtbllkmhkpapgeaaEvd
import Derived.Test.YtbllkmhkpapgeaaSrs
/- Cst: What a cache is, and becomes, as lists of objects and graves: the document's answer for layer 8; conditions: none. -/
namespace Go.Proofs.Ytbllkmhkpapgeaa
namespace Chm
open Go Go.RowKit Sx Lab Vec Ojt Evt

/-! Keys. -/
def keyR (k : Kt) : Bool := keyB k.1 k.2.1 k.2.2
def lessK (a b : Kt) : Bool := Op.bytesLess (joinB a.1 a.2.1 a.2.2) (joinB b.1 b.2.1 b.2.2)
theorem right_keyR {o : Ob} (h : rightO o = true) : keyR (keyO o) = true := right_key h
theorem lessK_ne {a b : Kt} (h : lessK a b = true) : a ≠ b := fun e => by subst e; unfold lessK at h; rw [bl_irrefl] at h; cases h
theorem lessO_ne {a b : Ob} (h : lessO a b = true) : keyO a ≠ keyO b := lessK_ne (a := keyO a) (b := keyO b) h
theorem lessK_total {a b : Kt} (ha : keyR a = true) (hb : keyR b = true) (h1 : lessK a b = false) (h2 : lessK b a = false) : a = b := by
  obtain ⟨a1, a2, a3⟩ := a
  obtain ⟨b1, b2, b3⟩ := b
  obtain ⟨e1, e2, e3⟩ := join_inj ha hb (bl_total _ _ h1 h2)
  simp only at e1 e2 e3
  rw [e1, e2, e3]
/-- Keys that rise, of objects that may be. -/
def Rise (os : List Ob) : Prop := os.Pairwise (fun a b => lessO a b = true) ∧ ∀ o ∈ os, rightO o = true
theorem Rise.nil : Rise [] := ⟨List.Pairwise.nil, fun _ h => by cases h⟩
theorem Rise.sub {os l : List Ob} (h : Rise os) (hs : l.Sublist os) : Rise l := ⟨h.1.sublist hs, fun o ho => h.2 o (hs.subset ho)⟩
/-- Keys of their own. -/
def Own (os : List Ob) : Prop := os.Pairwise fun a b => keyO a ≠ keyO b
theorem Rise.own {os : List Ob} (h : Rise os) : Own os := h.1.imp lessO_ne
theorem rise_sort {os : List Ob} (h : Own os) (hr : ∀ o ∈ os, rightO o = true) : Rise (sortO os) := by
  have hp := sort_perm os
  refine ⟨?_, fun o ho => hr o (hp.mem_iff.1 ho)⟩
  have h4 : (sortO os).Pairwise fun a b => keyO a ≠ keyO b := (hp.pairwise_iff (fun h => h.symm)).2 h
  have h5 : (sortO os).Pairwise fun a b => rightO a = true ∧ rightO b = true := List.pairwise_iff_getElem.2 fun i j hi hj _ => ⟨hr _ (hp.mem_iff.1 (List.getElem_mem hi)), hr _ (hp.mem_iff.1 (List.getElem_mem hj))⟩
  refine (List.pairwise_and_iff.2 ⟨List.pairwise_and_iff.2 ⟨sort_srt os, h4⟩, h5⟩).imp ?_
  rintro a b ⟨⟨h1, h2⟩, h3, h4⟩
  cases hl : lessO a b
  · exact absurd (lessK_total (right_keyR h3) (right_keyR h4) hl h1) h2
  · rfl
theorem rise_unique {l k : List Ob} (h1 : Rise l) (h2 : Rise k) (h : ∀ o, o ∈ l ↔ o ∈ k) : l = k :=
  Srt.ord_unique (lt := fun a b => lessO a b = true) (fun u h => by rw [less_irrefl] at h; cases h) (fun _ _ _ => less_trans) h1.1 h2.1 h

/-! What there is of a key. -/
def getO (os : List Ob) (k : Kt) : Option Ob := os.find? fun o => decide (keyO o = k)
def hasO (os : List Ob) (k : Kt) : Bool := os.any fun o => decide (keyO o = k)
theorem getO_some {os : List Ob} {k : Kt} {o : Ob} (h : getO os k = some o) : o ∈ os ∧ keyO o = k := by
  have h1 := List.find?_some h
  exact ⟨List.mem_of_find?_eq_some h, of_decide_eq_true h1⟩
theorem getO_none {os : List Ob} {k : Kt} : getO os k = none ↔ ∀ o ∈ os, keyO o ≠ k := by
  unfold getO
  rw [List.find?_eq_none]
  simp
theorem getO_mem {os : List Ob} {o : Ob} (h : Own os) (ho : o ∈ os) : getO os (keyO o) = some o := by
  cases hg : getO os (keyO o) with
  | none => exact absurd rfl (getO_none.1 hg o ho)
  | some q =>
    obtain ⟨h1, h2⟩ := getO_some hg
    rw [Option.some.injEq]
    obtain ⟨i, hi, rfl⟩ := List.getElem_of_mem h1
    obtain ⟨j, hj, rfl⟩ := List.getElem_of_mem ho
    rcases Nat.lt_trichotomy i j with h3 | rfl | h3
    · exact absurd h2 (List.pairwise_iff_getElem.1 h i j hi hj h3)
    · rfl
    · exact absurd h2.symm (List.pairwise_iff_getElem.1 h j i hj hi h3)
theorem getO_iff {os : List Ob} {k : Kt} {o : Ob} (h : Own os) : getO os k = some o ↔ o ∈ os ∧ keyO o = k :=
  ⟨getO_some, fun ⟨h1, h2⟩ => h2 ▸ getO_mem h h1⟩
theorem getO_perm {os l : List Ob} (h : Own os) (hp : l.Perm os) (k : Kt) : getO l k = getO os k := by
  have h2 : Own l := (hp.pairwise_iff (fun h => h.symm)).2 h
  cases hg : getO os k with
  | none => exact getO_none.2 fun o ho => getO_none.1 hg o (hp.mem_iff.1 ho)
  | some o =>
    obtain ⟨g1, g2⟩ := getO_some hg
    exact (getO_iff h2).2 ⟨hp.mem_iff.2 g1, g2⟩
theorem hasO_iff {os : List Ob} {k : Kt} : hasO os k = true ↔ ∃ o ∈ os, keyO o = k := by simp [hasO]
def woO (os : List Ob) (k : Kt) : List Ob := os.filter fun o => decide (keyO o ≠ k)
def wiO (os : List Ob) (o : Ob) : List Ob := sortO (woO os (keyO o) ++ [o])
theorem woO_mem {os : List Ob} {k : Kt} {o : Ob} : o ∈ woO os k ↔ o ∈ os ∧ keyO o ≠ k := by simp [woO]
theorem woO_rise {os : List Ob} {k : Kt} (h : Rise os) : Rise (woO os k) := h.sub List.filter_sublist
theorem Own.filter {os : List Ob} {p : Ob → Bool} (h : Own os) : Own (os.filter p) := List.Pairwise.sublist List.filter_sublist h
theorem getO_filter {os : List Ob} {p : Ob → Bool} (h : Own os) (k : Kt) : getO (os.filter p) k = (getO os k).filter p := by
  cases hg : getO os k with
  | none => exact getO_none.2 fun o ho => getO_none.1 hg o (List.mem_filter.1 ho).1
  | some o =>
    obtain ⟨g1, g2⟩ := getO_some hg
    cases hp : p o
    · rw [Option.filter_some, hp, if_neg (by decide)]
      refine getO_none.2 fun q hq e => ?_
      obtain ⟨q1, q2⟩ := List.mem_filter.1 hq
      have := (getO_iff h).2 ⟨q1, e⟩
      rw [hg] at this
      cases this
      rw [hp] at q2
      cases q2
    · rw [Option.filter_some, hp, if_pos rfl]
      exact (getO_iff h.filter).2 ⟨List.mem_filter.2 ⟨g1, hp⟩, g2⟩
theorem getO_wo {os : List Ob} {k' : Kt} (h : Own os) (k : Kt) : getO (woO os k') k = if k = k' then none else getO os k := by
  unfold woO
  rw [getO_filter h]
  by_cases hk : k = k'
  · rw [if_pos hk]
    cases hg : getO os k with
    | none => rfl
    | some o =>
      rw [Option.filter_some, if_neg]
      simp [(getO_some hg).2, hk]
  · rw [if_neg hk]
    cases hg : getO os k with
    | none => rfl
    | some o =>
      rw [Option.filter_some, if_pos]
      simp [(getO_some hg).2, hk]
theorem own_snoc {os : List Ob} {o : Ob} (h : Own os) (hn : ∀ q ∈ os, keyO q ≠ keyO o) : Own (os ++ [o]) := by
  unfold Own at *
  rw [List.pairwise_append]
  exact ⟨h, List.pairwise_singleton _ _, fun a ha b hb => by rw [List.mem_singleton.1 hb]; exact hn a ha⟩
theorem wi_own {os : List Ob} {o : Ob} (h : Own os) : Own (woO os (keyO o) ++ [o]) := own_snoc h.filter fun _ hq => (woO_mem.1 hq).2
theorem wiO_mem {os : List Ob} {o q : Ob} : q ∈ wiO os o ↔ (q ∈ os ∧ keyO q ≠ keyO o) ∨ q = o := by
  unfold wiO
  rw [(sort_perm _).mem_iff, List.mem_append, woO_mem, List.mem_singleton]
theorem wiO_rise {os : List Ob} {o : Ob} (h : Rise os) (ho : rightO o = true) : Rise (wiO os o) :=
  rise_sort (wi_own h.own) fun q hq => by
    rcases List.mem_append.1 hq with hq | hq
    · exact h.2 q (woO_mem.1 hq).1
    · rw [List.mem_singleton.1 hq]; exact ho
theorem getO_wi {os : List Ob} {o : Ob} (h : Rise os) (ho : rightO o = true) (k : Kt) : getO (wiO os o) k = if k = keyO o then some o else getO os k := by
  have hr := (wiO_rise h ho).own
  by_cases hk : k = keyO o
  · rw [if_pos hk, hk]
    exact getO_mem hr (wiO_mem.2 (.inr rfl))
  · rw [if_neg hk]
    cases hg : getO os k with
    | none =>
      refine getO_none.2 fun q hq e => ?_
      rcases wiO_mem.1 hq with ⟨g1, -⟩ | rfl
      · exact getO_none.1 hg q g1 e
      · exact hk e.symm
    | some q =>
      obtain ⟨g1, g2⟩ := getO_some hg
      exact (getO_iff hr).2 ⟨wiO_mem.2 (.inl ⟨g1, by rw [g2]; exact hk⟩), g2⟩
end Chm
end Go.Proofs.Ytbllkmhkpapgeaa
/- Csu: What a cache becomes with an event: the document's answer for layer 8; it never goes back; conditions: none. -/
namespace Go.Proofs.Ytbllkmhkpapgeaa
namespace Chm
open Go Go.RowKit Sx Lab Vec Ojt Evt

/-- A cache: objects, graves, the floor. -/
structure St where
  os : List Ob
  gs : List Gr
  fl : Int
abbrev St.new : St := ⟨[], [], 0⟩
/-- What is known of a key. -/
def knO (st : St) (k : Kt) : Int := knownG st.gs k (match getO st.os k with | some o => mx st.fl o.ver | none => st.fl)
theorem mx_le {p q n : Int} : mx p q ≤ n ↔ p ≤ n ∧ q ≤ n := by unfold mx; split <;> omega
theorem knownG_le {k : Kt} {n : Int} : ∀ {gs : List Gr} {m : Int}, knownG gs k m ≤ n ↔ m ≤ n ∧ ∀ g ∈ gs, g.1 = k → g.2 ≤ n
  | [], m => by simp [knownG]
  | g :: gs, m => by
    have ih := fun m => knownG_le (k := k) (n := n) (gs := gs) (m := m)
    unfold knownG at *
    rw [List.foldl_cons, ih]
    by_cases hg : g.1 = k
    · rw [if_pos hg, mx_le]
      constructor
      · rintro ⟨⟨h1, h2⟩, h3⟩
        refine ⟨h1, fun x hx e => ?_⟩
        rcases List.mem_cons.1 hx with rfl | hx
        · exact h2
        · exact h3 x hx e
      · rintro ⟨h1, h2⟩
        exact ⟨⟨h1, h2 g List.mem_cons_self hg⟩, fun x hx => h2 x (List.mem_cons_of_mem g hx)⟩
    · rw [if_neg hg]
      constructor
      · rintro ⟨h1, h3⟩
        refine ⟨h1, fun x hx e => ?_⟩
        rcases List.mem_cons.1 hx with rfl | hx
        · exact absurd e hg
        · exact h3 x hx e
      · rintro ⟨h1, h2⟩
        exact ⟨h1, fun x hx => h2 x (List.mem_cons_of_mem g hx)⟩
theorem knO_le {st : St} {k : Kt} {n : Int} : knO st k ≤ n ↔ st.fl ≤ n ∧ (∀ o, getO st.os k = some o → o.ver ≤ n) ∧ ∀ g ∈ st.gs, g.1 = k → g.2 ≤ n := by
  unfold knO
  rw [knownG_le]
  cases getO st.os k with
  | none => simp
  | some o => simp [mx_le, and_assoc]
theorem kn_fl (st : St) (k : Kt) : st.fl ≤ knO st k := (knO_le.1 (Int.le_refl _)).1
theorem kn_ob {st : St} {k : Kt} {o : Ob} (h : getO st.os k = some o) : o.ver ≤ knO st k := (knO_le.1 (Int.le_refl _)).2.1 o h
theorem kn_gr {st : St} {g : Gr} (h : g ∈ st.gs) : g.2 ≤ knO st g.1 := (knO_le.1 (Int.le_refl _)).2.2 g h rfl

/-- A grave, ahead of the first that it is ahead of. -/
def insG (g : Gr) : List Gr → List Gr
  | [] => [g]
  | y :: r => if lessK g.1 y.1 = true then g :: y :: r else y :: insG g r
theorem insG_mem {g x : Gr} : ∀ {l : List Gr}, x ∈ insG g l ↔ x = g ∨ x ∈ l
  | [] => by simp [insG]
  | y :: r => by
    unfold insG
    split
    · simp
    · rw [List.mem_cons, insG_mem, List.mem_cons]
      constructor
      · rintro (h | h | h)
        · exact .inr (.inl h)
        · exact .inl h
        · exact .inr (.inr h)
      · rintro (h | h | h)
        · exact .inr (.inl h)
        · exact .inl h
        · exact .inr (.inr h)
theorem gravesP_mem {gs : List Gr} {k : Kt} {fl : Int} {g : Gr} : g ∈ gravesP gs k fl ↔ g ∈ gs ∧ g.1 ≠ k ∧ fl < g.2 := by simp [gravesP]
abbrev k0 : Kt := ([], [], [])
/-- Does a relist's object take its key's place? -/
def takesO (st : St) (q : Ob) : Bool := decide (knO st (keyO q) < q.ver) || (match getO st.os (keyO q) with | some own => own.ver == q.ver | none => false)
def rlStep (st : St) (out : List Ob) (q : Ob) : List Ob := if takesO st q = true then wiO out q else out
def rlO (st : St) (qs : List Ob) (ver : Int) : List Ob := qs.foldl (rlStep st) (st.os.filter fun o => hasO qs (keyO o) || decide (ver < o.ver))
/-- What there is behind an event. -/
def nxO (st : St) (kind : Int) (o : Ob) (ver : Int) (qs : List Ob) : St :=
  if kind = 0 then ⟨wiO st.os o, gravesP st.gs (keyO o) st.fl, st.fl⟩
  else if kind = 1 then ⟨woO st.os (keyO o), insG (keyO o, o.ver) (gravesP st.gs (keyO o) st.fl), st.fl⟩
  else if kind = 2 then ⟨rlO st qs ver, gravesP st.gs k0 ver, ver⟩
  else ⟨st.os, gravesP st.gs k0 ver, ver⟩
/-- A delta. -/
structure De where
  key : Kt
  had : Bool
  has : Bool
  old : Ob
  new : Ob
instance (a b : De) : Decidable (a = b) :=
  decidable_of_iff (a.key = b.key ∧ a.had = b.had ∧ a.has = b.has ∧ a.old = b.old ∧ a.new = b.new) ⟨fun h => by
    obtain ⟨h1, h2, h3, h4, h5⟩ := h
    cases a; cases b
    simp_all, fun h => by subst h; exact ⟨rfl, rfl, rfl, rfl, rfl⟩⟩
abbrev zO : Ob := ⟨[], [], [], 0, [], false, false, []⟩
def dlO : List Ob → List Ob → List De
  | [], [] => []
  | x :: a, [] => ⟨keyO x, true, false, x, zO⟩ :: dlO a []
  | [], y :: b => ⟨keyO y, false, true, zO, y⟩ :: dlO [] b
  | x :: a, y :: b => if lessO x y = true then ⟨keyO x, true, false, x, zO⟩ :: dlO a (y :: b) else if lessO y x = true then ⟨keyO y, false, true, zO, y⟩ :: dlO (x :: a) b else if x = y then dlO a b else ⟨keyO x, true, true, x, y⟩ :: dlO a b
  termination_by a b => a.length + b.length
/-- The version that an event has to be above. -/
def lowO (st : St) (kind : Int) (o : Ob) : Int := if kind = 0 ∨ kind = 1 then knO st (keyO o) else st.fl
/-- What an event comes to: its error, the deltas, the cache behind it. -/
def apO (st : St) (kind : Int) (o : Ob) (ver : Int) (qs : List Ob) : Int × List De × St :=
  if rightE kind o ver qs = false then (1, [], st)
  else if (versE kind o ver qs).1 ≤ lowO st kind o then (6, [], st)
  else if 1000 < (nxO st kind o ver qs).os.length then (3, [], st)
  else (0, dlO st.os (nxO st kind o ver qs).os, nxO st kind o ver qs)

/-- Such a cache as there can be. -/
structure Fine (st : St) : Prop where
  os : Rise st.os
  gs : st.gs.Pairwise fun a b => lessK a.1 b.1 = true
  gk : ∀ g ∈ st.gs, keyR g.1 = true
  fl : 0 ≤ st.fl
theorem Fine.new : Fine .new := ⟨.nil, List.Pairwise.nil, (fun _ h => by cases h), Int.le_refl _⟩
theorem graves_sub {gs : List Gr} {k : Kt} {fl : Int} : (gravesP gs k fl).Sublist gs := List.filter_sublist
theorem lessK_trans {a b c : Kt} (h : lessK a b = true) (g : lessK b c = true) : lessK a c = true := bl_trans _ _ _ h g
theorem insG_rise {g : Gr} (hg : keyR g.1 = true) : ∀ {l : List Gr}, l.Pairwise (fun a b => lessK a.1 b.1 = true) → (∀ x ∈ l, keyR x.1 = true) → (∀ x ∈ l, x.1 ≠ g.1) → (insG g l).Pairwise fun a b => lessK a.1 b.1 = true
  | [], _, _, _ => by simp [insG]
  | y :: r, h, hk, hn => by
    rw [List.pairwise_cons] at h
    unfold insG
    split
    · rename_i hl
      rw [List.pairwise_cons]
      refine ⟨fun z hz => ?_, List.pairwise_cons.2 h⟩
      rcases List.mem_cons.1 hz with rfl | hz
      · exact hl
      · exact lessK_trans hl (h.1 z hz)
    · rename_i hl
      rw [List.pairwise_cons]
      refine ⟨fun z hz => ?_, insG_rise hg h.2 (fun x hx => hk x (List.mem_cons_of_mem y hx)) fun x hx => hn x (List.mem_cons_of_mem y hx)⟩
      rcases insG_mem.1 hz with rfl | hz
      · cases hyz : lessK y.1 z.1
        · exact absurd (lessK_total (hk y List.mem_cons_self) hg hyz (by simpa using hl)) (hn y List.mem_cons_self)
        · rfl
      · exact h.1 z hz

/-! A relist, key by key. -/
theorem rl_rise {st : St} : ∀ {qs out : List Ob}, Rise out → (∀ q ∈ qs, rightO q = true) → Rise (qs.foldl (rlStep st) out)
  | [], _, h, _ => h
  | q :: qs, out, h, hq => by
    rw [List.foldl_cons]
    refine rl_rise ?_ fun x hx => hq x (List.mem_cons_of_mem q hx)
    unfold rlStep
    split
    · exact wiO_rise h (hq q List.mem_cons_self)
    · exact h
theorem rl_get {st : St} {k : Kt} : ∀ {qs out : List Ob}, Rise out → (∀ q ∈ qs, rightO q = true) → Own qs →
    getO (qs.foldl (rlStep st) out) k = match getO qs k with | some q => if takesO st q = true then some q else getO out k | none => getO out k
  | [], _, _, _, _ => rfl
  | q :: qs, out, h, hq, ho => by
    unfold Own at ho
    rw [List.pairwise_cons] at ho
    have hr : Rise (rlStep st out q) := by
      unfold rlStep
      split
      · exact wiO_rise h (hq q List.mem_cons_self)
      · exact h
    rw [List.foldl_cons, rl_get hr (fun x hx => hq x (List.mem_cons_of_mem q hx)) ho.2]
    by_cases hk : keyO q = k
    · have h1 : getO (q :: qs) k = some q := by unfold getO; rw [List.find?_cons, decide_eq_true hk]
      have h2 : getO qs k = none := getO_none.2 fun x hx e => ho.1 x hx (hk.trans e.symm)
      rw [h1, h2]
      simp only
      unfold rlStep
      split
      · rw [getO_wi h (hq q List.mem_cons_self), if_pos hk.symm]
      · rfl
    · have h1 : getO (q :: qs) k = getO qs k := by unfold getO; rw [List.find?_cons, decide_eq_false hk]
      have h2 : getO (rlStep st out q) k = getO out k := by
        unfold rlStep
        split
        · rw [getO_wi h (hq q List.mem_cons_self), if_neg fun e => hk e.symm]
        · rfl
      rw [h1, h2]
theorem rlO_rise {st : St} {qs : List Ob} {ver : Int} (h : Rise st.os) (hq : ∀ q ∈ qs, rightO q = true) : Rise (rlO st qs ver) := rl_rise (h.sub List.filter_sublist) hq
theorem rlO_get {st : St} {qs : List Ob} {ver : Int} (h : Rise st.os) (hq : ∀ q ∈ qs, rightO q = true) (ho : Own qs) (k : Kt) :
    getO (rlO st qs ver) k = match getO qs k with | some q => if takesO st q = true then some q else getO st.os k | none => (getO st.os k).filter fun o => decide (ver < o.ver) := by
  unfold rlO
  rw [rl_get (h.sub List.filter_sublist) hq ho, getO_filter h.own]
  cases hg : getO qs k with
  | none =>
    simp only
    cases hs : getO st.os k with
    | none => rfl
    | some o =>
      have h2 : hasO qs (keyO o) = false := by
        cases hh : hasO qs (keyO o)
        · rfl
        · obtain ⟨x, hx, e⟩ := hasO_iff.1 hh
          exact absurd (e.trans (getO_some hs).2) (getO_none.1 hg x hx)
      rw [Option.filter_some, Option.filter_some, h2, Bool.false_or]
  | some q =>
    simp only
    split
    · rfl
    · cases hs : getO st.os k with
      | none => rfl
      | some o =>
        have h2 : hasO qs (keyO o) = true := hasO_iff.2 ⟨q, (getO_some hg).1, (getO_some hg).2.trans (getO_some hs).2.symm⟩
        rw [Option.filter_some, h2, Bool.true_or, if_pos rfl]

/-! Which events may be. -/
theorem right_put {o : Ob} {ver : Int} {qs : List Ob} : rightE 0 o ver qs = rightO o := rfl
theorem right_del {o : Ob} {ver : Int} {qs : List Ob} (h : rightE 1 o ver qs = true) : keyR (keyO o) = true ∧ 1 ≤ o.ver := by
  have : (keyB o.k o.s o.n && decide (1 ≤ o.ver)) = true := h
  simpa [keyR] using this
theorem right_rel {o : Ob} {ver : Int} {qs : List Ob} (h : rightE 2 o ver qs = true) : Rise qs ∧ (∀ q ∈ qs, q.ver ≤ ver) ∧ 0 ≤ ver := by
  have h1 : (relB qs ver && (decide (0 ≤ ver) && decide (qs.length ≤ 1000))) = true := h
  simp only [Bool.and_eq_true, decide_eq_true_eq] at h1
  obtain ⟨g1, g2⟩ := rel_iff.1 h1.1
  exact ⟨⟨g2, fun q hq => (g1 q hq).1⟩, fun q hq => (g1 q hq).2, h1.2.1⟩
theorem right_kind {kind : Int} {o : Ob} {ver : Int} {qs : List Ob} (h : rightE kind o ver qs = true) : kind = 0 ∨ kind = 1 ∨ kind = 2 ∨ kind = 3 := by
  unfold rightE at h
  repeat' split at h
  all_goals simp_all
theorem right_mark {o : Ob} {ver : Int} {qs : List Ob} (h : rightE 3 o ver qs = true) : 0 ≤ ver := of_decide_eq_true h
theorem vers_is {kind : Int} {o : Ob} {ver : Int} {qs : List Ob} (h : rightE kind o ver qs = true) : (versE kind o ver qs).1 = if kind = 0 ∨ kind = 1 then o.ver else ver := by unfold versE; rw [if_pos h]

/-- An event leaves such a cache as there can be. -/
theorem nxO_fine {st : St} {kind : Int} {o : Ob} {ver : Int} {qs : List Ob} (h : Fine st) (hr : rightE kind o ver qs = true) : Fine (nxO st kind o ver qs) := by
  have g1 : ∀ k fl, (gravesP st.gs k fl).Pairwise fun a b => lessK a.1 b.1 = true := fun k fl => h.gs.sublist graves_sub
  have g2 : ∀ k fl, ∀ g ∈ gravesP st.gs k fl, keyR g.1 = true := fun k fl g hg => h.gk g (graves_sub.subset hg)
  rcases right_kind hr with rfl | rfl | rfl | rfl
  · exact ⟨wiO_rise h.os hr, g1 _ _, g2 _ _, h.fl⟩
  · obtain ⟨k1, k2⟩ := right_del hr
    exact ⟨woO_rise h.os, insG_rise k1 (g1 _ _) (g2 _ _) fun x hx => (gravesP_mem.1 hx).2.1, fun g hg => by
      rcases insG_mem.1 hg with rfl | hg
      · exact k1
      · exact g2 _ _ g hg, h.fl⟩
  · obtain ⟨r1, r2, r3⟩ := right_rel hr
    exact ⟨rlO_rise h.os r1.2, g1 _ _, g2 _ _, r3⟩
  · exact ⟨h.os, g1 _ _, g2 _ _, right_mark hr⟩
theorem key0_no : keyR k0 = false := by decide
/-- What is known of a key never gets less. -/
theorem nxO_known {st : St} {kind : Int} {o : Ob} {ver : Int} {qs : List Ob} (h : Fine st) (hr : rightE kind o ver qs = true) (hv : lowO st kind o < (versE kind o ver qs).1) (k : Kt) : knO st k ≤ knO (nxO st kind o ver qs) k ∧ st.fl ≤ (nxO st kind o ver qs).fl := by
  rw [vers_is hr] at hv
  have hg0 : ∀ g ∈ st.gs, g.1 ≠ k0 := fun g hg e => by have := h.gk g hg; rw [e, key0_no] at this; cases this
  rcases right_kind hr with rfl | rfl | rfl | rfl
  · refine ⟨knO_le.2 ⟨kn_fl (nxO st 0 o ver qs) k, fun x hx => ?_, fun g hg e => ?_⟩, Int.le_refl _⟩
    · by_cases hk : k = keyO o
      · have h1 : getO (nxO st 0 o ver qs).os k = some o := by rw [show (nxO st 0 o ver qs).os = wiO st.os o from rfl, getO_wi h.os hr, if_pos hk]
        have h2 := kn_ob h1
        have h3 := kn_ob hx
        rw [if_pos (.inl rfl), lowO, if_pos (.inl rfl), ← hk] at hv
        omega
      · have h1 : getO (nxO st 0 o ver qs).os k = some x := by rw [show (nxO st 0 o ver qs).os = wiO st.os o from rfl, getO_wi h.os hr, if_neg hk]; exact hx
        exact kn_ob h1
    · subst e
      by_cases hk : g.1 = keyO o
      · have h1 : getO (nxO st 0 o ver qs).os g.1 = some o := by rw [show (nxO st 0 o ver qs).os = wiO st.os o from rfl, getO_wi h.os hr, if_pos hk]
        have h2 := kn_ob h1
        have h3 := kn_gr hg
        rw [if_pos (.inl rfl), lowO, if_pos (.inl rfl), ← hk] at hv
        omega
      · by_cases hf : st.fl < g.2
        · exact kn_gr (st := nxO st 0 o ver qs) (gravesP_mem.2 ⟨hg, hk, hf⟩)
        · have := kn_fl (nxO st 0 o ver qs) g.1
          have e2 : (nxO st 0 o ver qs).fl = st.fl := rfl
          omega
  · have hnew : o.ver ≤ knO (nxO st 1 o ver qs) (keyO o) := kn_gr (st := nxO st 1 o ver qs) (g := (keyO o, o.ver)) (insG_mem.2 (.inl rfl))
    rw [if_pos (.inr rfl), lowO, if_pos (.inr rfl)] at hv
    refine ⟨?_, Int.le_refl _⟩
    by_cases hk : k = keyO o
    · subst hk
      omega
    · refine knO_le.2 ⟨kn_fl (nxO st 1 o ver qs) k, fun x hx => ?_, fun g hg e => ?_⟩
      · have h1 : getO (nxO st 1 o ver qs).os k = some x := by rw [show (nxO st 1 o ver qs).os = woO st.os (keyO o) from rfl, getO_wo h.os.own, if_neg hk]; exact hx
        exact kn_ob h1
      · subst e
        by_cases hf : st.fl < g.2
        · exact kn_gr (st := nxO st 1 o ver qs) (insG_mem.2 (.inr (gravesP_mem.2 ⟨hg, hk, hf⟩)))
        · have := kn_fl (nxO st 1 o ver qs) g.1
          have e2 : (nxO st 1 o ver qs).fl = st.fl := rfl
          omega
  · obtain ⟨r1, r2, r3⟩ := right_rel hr
    rw [if_neg (by decide), lowO, if_neg (by decide)] at hv
    have hfl : (nxO st 2 o ver qs).fl = ver := rfl
    have hkf := kn_fl (nxO st 2 o ver qs) k
    rw [hfl] at hkf
    refine ⟨knO_le.2 ⟨by omega, fun x hx => ?_, fun g hg e => ?_⟩, by rw [hfl]; omega⟩
    · by_cases hxv : x.ver ≤ ver
      · omega
      · have hget := rlO_get (ver := ver) h.os r1.2 r1.own k
        cases hq : getO qs k with
        | none =>
          rw [hq, hx] at hget
          simp only [Option.filter_some] at hget
          rw [if_pos (by simpa using hxv)] at hget
          exact kn_ob (st := nxO st 2 o ver qs) hget
        | some q =>
          rw [hq] at hget
          simp only at hget
          have hqv := r2 q (getO_some hq).1
          by_cases ht : takesO st q = true
          · exfalso
            unfold takesO at ht
            rw [(getO_some hq).2, hx] at ht
            simp only [Bool.or_eq_true, decide_eq_true_eq, beq_iff_eq] at ht
            have := kn_ob hx
            omega
          · rw [if_neg ht, hx] at hget
            exact kn_ob (st := nxO st 2 o ver qs) hget
    · subst e
      by_cases hf : ver < g.2
      · exact kn_gr (st := nxO st 2 o ver qs) (gravesP_mem.2 ⟨hg, hg0 g hg, hf⟩)
      · omega
  · rw [if_neg (by decide), lowO, if_neg (by decide)] at hv
    have hfl : (nxO st 3 o ver qs).fl = ver := rfl
    have hkf := kn_fl (nxO st 3 o ver qs) k
    rw [hfl] at hkf
    refine ⟨knO_le.2 ⟨by omega, fun x hx => kn_ob (st := nxO st 3 o ver qs) hx, fun g hg e => ?_⟩, by rw [hfl]; omega⟩
    subst e
    by_cases hf : ver < g.2
    · exact kn_gr (st := nxO st 3 o ver qs) (gravesP_mem.2 ⟨hg, hg0 g hg, hf⟩)
    · omega
/-- An event that was applied is stale from then on. -/
theorem nxO_low {st : St} {kind : Int} {o : Ob} {ver : Int} {qs : List Ob} (h : Fine st) (hr : rightE kind o ver qs = true) : (versE kind o ver qs).1 ≤ lowO (nxO st kind o ver qs) kind o := by
  rw [vers_is hr]
  unfold lowO
  rcases right_kind hr with rfl | rfl | rfl | rfl
  · rw [if_pos (.inl rfl), if_pos (.inl rfl)]
    exact kn_ob (st := nxO st 0 o ver qs) (by rw [show (nxO st 0 o ver qs).os = wiO st.os o from rfl, getO_wi h.os hr, if_pos rfl])
  · rw [if_pos (.inr rfl), if_pos (.inr rfl)]
    exact kn_gr (st := nxO st 1 o ver qs) (g := (keyO o, o.ver)) (insG_mem.2 (.inl rfl))
  · exact Int.le_refl _
  · exact Int.le_refl _
end Chm
end Go.Proofs.Ytbllkmhkpapgeaa
/- Csv: What a cache becomes with events: an event's outcome, deltas that make what there is, the last one counts; conditions: none. -/
namespace Go.Proofs.Ytbllkmhkpapgeaa
namespace Chm
open Go Go.RowKit Sx Lab Vec Ojt Evt

/-! An event's outcome. -/
theorem ap_arg {st : St} {kind : Int} {o : Ob} {ver : Int} {qs : List Ob} : (apO st kind o ver qs).1 = 1 ↔ rightE kind o ver qs = false := by
  unfold apO
  constructor
  · intro h
    split at h
    · assumption
    · split at h
      · simp at h
      · split at h <;> simp at h
  · intro h
    rw [if_pos h]
theorem ap_cases (st : St) (kind : Int) (o : Ob) (ver : Int) (qs : List Ob) :
    ((apO st kind o ver qs).1 ≠ 0 ∧ (apO st kind o ver qs).2.1 = [] ∧ (apO st kind o ver qs).2.2 = st) ∨
    ((apO st kind o ver qs).1 = 0 ∧ rightE kind o ver qs = true ∧ lowO st kind o < (versE kind o ver qs).1 ∧ (apO st kind o ver qs).2.1 = dlO st.os (nxO st kind o ver qs).os ∧ (apO st kind o ver qs).2.2 = nxO st kind o ver qs) := by
  unfold apO
  by_cases h1 : rightE kind o ver qs = false
  · rw [if_pos h1]; exact .inl ⟨by simp, rfl, rfl⟩
  · rw [if_neg h1]
    by_cases h2 : (versE kind o ver qs).1 ≤ lowO st kind o
    · rw [if_pos h2]; exact .inl ⟨by simp, rfl, rfl⟩
    · rw [if_neg h2]
      by_cases h3 : 1000 < (nxO st kind o ver qs).os.length
      · rw [if_pos h3]; exact .inl ⟨by simp, rfl, rfl⟩
      · rw [if_neg h3]; exact .inr ⟨rfl, by simpa using h1, by omega, rfl, rfl⟩
theorem ap_fine {st : St} {kind : Int} {o : Ob} {ver : Int} {qs : List Ob} (h : Fine st) : Fine (apO st kind o ver qs).2.2 := by
  rcases ap_cases st kind o ver qs with ⟨-, -, e⟩ | ⟨-, h1, h2, -, e⟩
  · rw [e]; exact h
  · rw [e]; exact nxO_fine h h1
theorem ap_known {st : St} {kind : Int} {o : Ob} {ver : Int} {qs : List Ob} (h : Fine st) (k : Kt) : knO st k ≤ knO (apO st kind o ver qs).2.2 k ∧ st.fl ≤ (apO st kind o ver qs).2.2.fl := by
  rcases ap_cases st kind o ver qs with ⟨-, -, e⟩ | ⟨-, h1, h2, -, e⟩
  · rw [e]; exact ⟨Int.le_refl _, Int.le_refl _⟩
  · rw [e]; exact nxO_known h h1 h2 k
/-- It is stale. -/
def stale (st : St) (kind : Int) (o : Ob) (ver : Int) (qs : List Ob) : Prop := rightE kind o ver qs = true ∧ (versE kind o ver qs).1 ≤ lowO st kind o
theorem stale_ap {st : St} {kind : Int} {o : Ob} {ver : Int} {qs : List Ob} (h : stale st kind o ver qs) : apO st kind o ver qs = (6, [], st) := by
  unfold apO
  rw [if_neg (by rw [h.1]; decide), if_pos h.2]
theorem ap_stale {st : St} {kind : Int} {o : Ob} {ver : Int} {qs : List Ob} (h : Fine st) (he : (apO st kind o ver qs).1 = 0) : stale (apO st kind o ver qs).2.2 kind o ver qs := by
  rcases ap_cases st kind o ver qs with ⟨h0, -, -⟩ | ⟨-, h1, h2, -, e⟩
  · exact absurd he h0
  · rw [e]; exact ⟨h1, nxO_low h h1⟩
theorem stale_keep {st : St} {kind : Int} {o : Ob} {ver : Int} {qs : List Ob} (hs : stale st kind o ver qs) (h : Fine st) (kind2 : Int) (o2 : Ob) (ver2 : Int) (qs2 : List Ob) : stale (apO st kind2 o2 ver2 qs2).2.2 kind o ver qs := by
  refine ⟨hs.1, Int.le_trans hs.2 ?_⟩
  have h1 := fun k => ap_known (kind := kind2) (o := o2) (ver := ver2) (qs := qs2) h k
  unfold lowO
  split
  · exact (h1 _).1
  · exact (h1 (keyO o)).2

/-! Deltas, from what there was, make what there is. -/
/-- What one delta makes. -/
def playO (own : List Ob) (d : De) : List Ob := woO own d.key ++ (if d.has = true then [d.new] else [])
/-- It tells of its key what it had; it tells of a change. -/
def toldO (own : List Ob) (d : De) : Prop := (match getO own d.key with | some o => d.had = true ∧ d.old = o | none => d.had = false ∧ d.old = zO) ∧ (d.has = true → keyO d.new = d.key) ∧ (d.has = false → d.new = zO) ∧ ¬ (d.old = d.new ∧ d.had = d.has)
def playsO : List Ob → List De → Prop
  | _, [] => True
  | own, d :: ds => toldO own d ∧ playsO (playO own d) ds
def madeO (own : List Ob) (ds : List De) : List Ob := ds.foldl playO own
theorem woO_perm {l m : List Ob} (h : l.Perm m) (k : Kt) : (woO l k).Perm (woO m k) := h.filter _
theorem woO_none {l : List Ob} {k : Kt} (h : ∀ o ∈ l, keyO o ≠ k) : woO l k = l := List.filter_eq_self.2 fun o ho => by simpa using h o ho
theorem woO_mid {l m : List Ob} {o : Ob} (h1 : ∀ q ∈ l, keyO q ≠ keyO o) (h2 : ∀ q ∈ m, keyO q ≠ keyO o) : woO (l ++ o :: m) (keyO o) = l ++ m := by
  have e1 := woO_none h1
  have e2 := woO_none h2
  unfold woO at *
  rw [List.filter_append, List.filter_cons, e1, e2, if_neg (by simp)]
theorem plays_all : ∀ (a b done own : List Ob), own.Perm (done ++ a) → Own (done ++ a) → Own (done ++ b) → Rise a → Rise b → (∀ q ∈ done, ∀ y ∈ b, keyO q ≠ keyO y) →
    playsO own (dlO a b) ∧ (madeO own (dlO a b)).Perm (done ++ b)
  | [], [], done, own, h, _, _, _, _, _ => by
    rw [dlO]
    exact ⟨trivial, h⟩
  | x :: a, [], done, own, h, ho1, ho2, ha, hb, hd => by
    rw [dlO]
    have hx := List.pairwise_append.1 ho1
    have hxa := List.pairwise_cons.1 hx.2.1
    have n1 : ∀ q ∈ done, keyO q ≠ keyO x := fun q hq => hx.2.2 q hq x List.mem_cons_self
    have hp : (playO own ⟨keyO x, true, false, x, zO⟩).Perm (done ++ a) := by
      unfold playO
      rw [if_neg (by simp), List.append_nil]
      refine (woO_perm h _).trans ?_
      rw [woO_mid n1 fun q hq => (hxa.1 q hq).symm]
    have ho3 : Own (done ++ a) := ho1.sublist (List.Sublist.append_left (List.sublist_cons_self x a) done)
    obtain ⟨g1, g2⟩ := plays_all a [] done _ hp ho3 ho2 (ha.sub (List.sublist_cons_self x a)) hb (fun _ _ _ hy => by cases hy)
    refine ⟨⟨⟨?_, (fun h => by cases h), (fun _ => rfl), fun h => by cases h.2⟩, g1⟩, g2⟩
    rw [getO_perm ho1 h, getO_mem ho1 (List.mem_append_right _ List.mem_cons_self)]
    exact ⟨rfl, rfl⟩
  | [], y :: b, done, own, h, ho1, ho2, ha, hb, hd => by
    rw [dlO]
    have hyb := List.pairwise_cons.1 (List.pairwise_append.1 ho2).2.1
    have n1 : ∀ q ∈ done, keyO q ≠ keyO y := fun q hq => hd q hq y List.mem_cons_self
    have hp : (playO own ⟨keyO y, false, true, zO, y⟩).Perm ((done ++ [y]) ++ []) := by
      unfold playO
      rw [if_pos rfl, List.append_nil]
      refine List.Perm.append_right [y] ?_
      refine (woO_perm h _).trans ?_
      rw [List.append_nil, woO_none n1]
    have ho4 : Own ((done ++ [y]) ++ []) := by
      rw [List.append_nil] at *
      exact own_snoc ho1 n1
    have ho5 : Own ((done ++ [y]) ++ b) := by rw [List.append_assoc]; exact ho2
    obtain ⟨g1, g2⟩ := plays_all [] b (done ++ [y]) _ hp ho4 ho5 ha (hb.sub (List.sublist_cons_self y b)) fun q hq z hz => by
      rcases List.mem_append.1 hq with hq | hq
      · exact hd q hq z (List.mem_cons_of_mem y hz)
      · rw [List.mem_singleton.1 hq]; exact hyb.1 z hz
    refine ⟨⟨⟨?_, (fun _ => rfl), (fun h => by cases h), fun h => by cases h.2⟩, g1⟩, by rw [List.append_assoc] at g2; exact g2⟩
    have hn : getO own (⟨keyO y, false, true, zO, y⟩ : De).key = none := by
      rw [getO_perm ho1 h]
      refine getO_none.2 fun q hq => ?_
      rw [List.append_nil] at hq
      exact n1 q hq
    rw [hn]
    exact ⟨rfl, rfl⟩
  | x :: a, y :: b, done, own, h, ho1, ho2, ha, hb, hd => by
    have hx := List.pairwise_append.1 ho1
    have hxa := List.pairwise_cons.1 hx.2.1
    have hyb := List.pairwise_cons.1 (List.pairwise_append.1 ho2).2.1
    have n1 : ∀ q ∈ done, keyO q ≠ keyO x := fun q hq => hx.2.2 q hq x List.mem_cons_self
    have n2 : ∀ q ∈ done, keyO q ≠ keyO y := fun q hq => hd q hq y List.mem_cons_self
    have ra := List.pairwise_cons.1 ha.1
    have rb := List.pairwise_cons.1 hb.1
    have ha2 := ha.sub (List.sublist_cons_self x a)
    have hb2 := hb.sub (List.sublist_cons_self y b)
    have ho3 : Own (done ++ a) := ho1.sublist (List.Sublist.append_left (List.sublist_cons_self x a) done)
    have ho5 : Own ((done ++ [y]) ++ b) := by rw [List.append_assoc]; exact ho2
    have hd2 : ∀ q ∈ done ++ [y], ∀ z ∈ b, keyO q ≠ keyO z := fun q hq z hz => by
      rcases List.mem_append.1 hq with hq | hq
      · exact hd q hq z (List.mem_cons_of_mem y hz)
      · rw [List.mem_singleton.1 hq]; exact hyb.1 z hz
    rw [dlO]
    by_cases hl : lessO x y = true
    · rw [if_pos hl]
      have hp : (playO own ⟨keyO x, true, false, x, zO⟩).Perm (done ++ a) := by
        unfold playO
        rw [if_neg (by simp), List.append_nil]
        refine (woO_perm h _).trans ?_
        rw [woO_mid n1 fun q hq => (hxa.1 q hq).symm]
      obtain ⟨g1, g2⟩ := plays_all a (y :: b) done _ hp ho3 ho2 ha2 hb hd
      refine ⟨⟨⟨?_, (fun h => by cases h), (fun _ => rfl), fun h => by cases h.2⟩, g1⟩, g2⟩
      rw [getO_perm ho1 h, getO_mem ho1 (List.mem_append_right _ List.mem_cons_self)]
      exact ⟨rfl, rfl⟩
    · rw [if_neg hl]
      by_cases hm : lessO y x = true
      · rw [if_pos hm]
        have n3 : ∀ q ∈ done ++ x :: a, keyO q ≠ keyO y := fun q hq => by
          rcases List.mem_append.1 hq with hq | hq
          · exact n2 q hq
          · rcases List.mem_cons.1 hq with rfl | hq
            · exact (lessO_ne hm).symm
            · exact (lessO_ne (less_trans hm (ra.1 q hq))).symm
        have hp : (playO own ⟨keyO y, false, true, zO, y⟩).Perm ((done ++ [y]) ++ (x :: a)) := by
          unfold playO
          rw [if_pos rfl]
          refine (List.Perm.append_right [y] ((woO_perm h _).trans (by rw [woO_none n3]))).trans ?_
          rw [List.append_assoc, List.append_assoc]
          exact List.Perm.append_left done List.perm_append_comm
        have ho4 : Own ((done ++ [y]) ++ (x :: a)) := by
          refine (List.Perm.pairwise_iff (fun h => h.symm) ?_).2 (own_snoc ho1 n3)
          rw [List.append_assoc, List.append_assoc]
          exact List.Perm.append_left done List.perm_append_comm
        obtain ⟨g1, g2⟩ := plays_all (x :: a) b (done ++ [y]) _ hp ho4 ho5 ha hb2 hd2
        refine ⟨⟨⟨?_, (fun _ => rfl), (fun h => by cases h), fun h => by cases h.2⟩, g1⟩, by rw [List.append_assoc] at g2; exact g2⟩
        have hn : getO own (⟨keyO y, false, true, zO, y⟩ : De).key = none := by
          rw [getO_perm ho1 h]
          exact getO_none.2 n3
        rw [hn]
        exact ⟨rfl, rfl⟩
      · rw [if_neg hm]
        have hk : keyO x = keyO y := lessK_total (right_keyR (ha.2 x List.mem_cons_self)) (right_keyR (hb.2 y List.mem_cons_self)) (Bool.eq_false_iff.2 hl) (Bool.eq_false_iff.2 hm)
        have n4 : ∀ q ∈ done ++ a, keyO q ≠ keyO y := fun q hq => by
          rcases List.mem_append.1 hq with hq | hq
          · exact n2 q hq
          · rw [← hk]; exact (hxa.1 q hq).symm
        have pm : ∀ {l : List Ob}, l.Perm (done ++ a) → (l ++ [y]).Perm ((done ++ [y]) ++ a) := fun hl => by
          refine (List.Perm.append_right [y] hl).trans ?_
          rw [List.append_assoc, List.append_assoc]
          exact List.Perm.append_left done List.perm_append_comm
        have ho4 : Own ((done ++ [y]) ++ a) := (List.Perm.pairwise_iff (fun h => h.symm) (pm (List.Perm.refl _))).1 (own_snoc ho3 n4)
        by_cases hxy : x = y
        · subst hxy
          rw [if_pos rfl]
          have hp : own.Perm ((done ++ [x]) ++ a) := by rw [List.append_assoc]; exact h
          obtain ⟨g1, g2⟩ := plays_all a b (done ++ [x]) _ hp ho4 ho5 ha2 hb2 hd2
          exact ⟨g1, by rw [List.append_assoc] at g2; exact g2⟩
        · rw [if_neg hxy]
          have hp : (playO own ⟨keyO x, true, true, x, y⟩).Perm ((done ++ [y]) ++ a) := by
            unfold playO
            rw [if_pos rfl]
            refine pm ((woO_perm h _).trans ?_)
            rw [woO_mid n1 fun q hq => (hxa.1 q hq).symm]
          obtain ⟨g1, g2⟩ := plays_all a b (done ++ [y]) _ hp ho4 ho5 ha2 hb2 hd2
          refine ⟨⟨⟨?_, (fun _ => hk.symm), (fun h => by cases h), fun h => hxy h.1⟩, g1⟩, by rw [List.append_assoc] at g2; exact g2⟩
          rw [getO_perm ho1 h, getO_mem ho1 (List.mem_append_right _ List.mem_cons_self)]
          exact ⟨rfl, rfl⟩
  termination_by a b => a.length + b.length
/-- An event's deltas, played on what there was in whatever order. -/
theorem ap_plays {st : St} {kind : Int} {o : Ob} {ver : Int} {qs : List Ob} (h : Fine st) {own : List Ob} (hp : own.Perm st.os) :
    playsO own (apO st kind o ver qs).2.1 ∧ (madeO own (apO st kind o ver qs).2.1).Perm (apO st kind o ver qs).2.2.os := by
  rcases ap_cases st kind o ver qs with ⟨-, e1, e2⟩ | ⟨-, h1, h2, e1, e2⟩
  · rw [e1, e2]; exact ⟨trivial, hp⟩
  · rw [e1, e2]
    have hf := nxO_fine h h1
    exact plays_all st.os (nxO st kind o ver qs).os [] own hp h.os.own hf.os.own h.os hf.os fun _ hq => by cases hq
/-- Keys of deltas rise. -/
theorem dl_keys : ∀ (a b : List Ob), Rise a → Rise b → (∀ d ∈ dlO a b, (∃ x ∈ a, d.key = keyO x) ∨ ∃ y ∈ b, d.key = keyO y) ∧ (dlO a b).Pairwise fun d e => lessK d.key e.key = true
  | [], [], _, _ => by rw [dlO]; exact ⟨(fun _ h => by cases h), List.Pairwise.nil⟩
  | x :: a, [], ha, hb => by
    have ra := List.pairwise_cons.1 ha.1
    obtain ⟨g1, g2⟩ := dl_keys a [] (ha.sub (List.sublist_cons_self x a)) hb
    rw [dlO]
    refine ⟨fun d hd => ?_, List.pairwise_cons.2 ⟨fun d hd => ?_, g2⟩⟩
    · rcases List.mem_cons.1 hd with rfl | hd
      · exact .inl ⟨x, List.mem_cons_self, rfl⟩
      · rcases g1 d hd with ⟨z, hz, e⟩ | ⟨z, hz, e⟩
        · exact .inl ⟨z, List.mem_cons_of_mem x hz, e⟩
        · cases hz
    · rcases g1 d hd with ⟨z, hz, e⟩ | ⟨z, hz, e⟩
      · rw [e]; exact ra.1 z hz
      · cases hz
  | [], y :: b, ha, hb => by
    have rb := List.pairwise_cons.1 hb.1
    obtain ⟨g1, g2⟩ := dl_keys [] b ha (hb.sub (List.sublist_cons_self y b))
    rw [dlO]
    refine ⟨fun d hd => ?_, List.pairwise_cons.2 ⟨fun d hd => ?_, g2⟩⟩
    · rcases List.mem_cons.1 hd with rfl | hd
      · exact .inr ⟨y, List.mem_cons_self, rfl⟩
      · rcases g1 d hd with ⟨z, hz, e⟩ | ⟨z, hz, e⟩
        · cases hz
        · exact .inr ⟨z, List.mem_cons_of_mem y hz, e⟩
    · rcases g1 d hd with ⟨z, hz, e⟩ | ⟨z, hz, e⟩
      · cases hz
      · rw [e]; exact rb.1 z hz
  | x :: a, y :: b, ha, hb => by
    have ra := List.pairwise_cons.1 ha.1
    have rb := List.pairwise_cons.1 hb.1
    have ha2 := ha.sub (List.sublist_cons_self x a)
    have hb2 := hb.sub (List.sublist_cons_self y b)
    rw [dlO]
    by_cases hl : lessO x y = true
    · rw [if_pos hl]
      obtain ⟨g1, g2⟩ := dl_keys a (y :: b) ha2 hb
      refine ⟨fun d hd => ?_, List.pairwise_cons.2 ⟨fun d hd => ?_, g2⟩⟩
      · rcases List.mem_cons.1 hd with rfl | hd
        · exact .inl ⟨x, List.mem_cons_self, rfl⟩
        · exact (g1 d hd).imp (fun ⟨z, hz, e⟩ => ⟨z, List.mem_cons_of_mem x hz, e⟩) id
      · rcases g1 d hd with ⟨z, hz, e⟩ | ⟨z, hz, e⟩
        · rw [e]; exact ra.1 z hz
        · rw [e]
          rcases List.mem_cons.1 hz with rfl | hz
          · exact hl
          · exact less_trans hl (rb.1 z hz)
    · rw [if_neg hl]
      by_cases hm : lessO y x = true
      · rw [if_pos hm]
        obtain ⟨g1, g2⟩ := dl_keys (x :: a) b ha hb2
        refine ⟨fun d hd => ?_, List.pairwise_cons.2 ⟨fun d hd => ?_, g2⟩⟩
        · rcases List.mem_cons.1 hd with rfl | hd
          · exact .inr ⟨y, List.mem_cons_self, rfl⟩
          · exact (g1 d hd).imp id fun ⟨z, hz, e⟩ => ⟨z, List.mem_cons_of_mem y hz, e⟩
        · rcases g1 d hd with ⟨z, hz, e⟩ | ⟨z, hz, e⟩
          · rw [e]
            rcases List.mem_cons.1 hz with rfl | hz
            · exact hm
            · exact less_trans hm (ra.1 z hz)
          · rw [e]; exact rb.1 z hz
      · rw [if_neg hm]
        have hk : keyO x = keyO y := lessK_total (right_keyR (ha.2 x List.mem_cons_self)) (right_keyR (hb.2 y List.mem_cons_self)) (Bool.eq_false_iff.2 hl) (Bool.eq_false_iff.2 hm)
        obtain ⟨g1, g2⟩ := dl_keys a b ha2 hb2
        have up : ∀ d : De, ((∃ z ∈ a, d.key = keyO z) ∨ ∃ z ∈ b, d.key = keyO z) → (∃ z ∈ x :: a, d.key = keyO z) ∨ ∃ z ∈ y :: b, d.key = keyO z := fun d h => h.imp (fun ⟨z, hz, e⟩ => ⟨z, List.mem_cons_of_mem x hz, e⟩) fun ⟨z, hz, e⟩ => ⟨z, List.mem_cons_of_mem y hz, e⟩
        by_cases hxy : x = y
        · rw [if_pos hxy]
          exact ⟨fun d hd => up d (g1 d hd), g2⟩
        · rw [if_neg hxy]
          refine ⟨fun d hd => ?_, List.pairwise_cons.2 ⟨fun d hd => ?_, g2⟩⟩
          · rcases List.mem_cons.1 hd with rfl | hd
            · exact .inl ⟨x, List.mem_cons_self, rfl⟩
            · exact up d (g1 d hd)
          · rcases g1 d hd with ⟨z, hz, e⟩ | ⟨z, hz, e⟩
            · rw [e]; exact ra.1 z hz
            · rw [e]
              show lessK (keyO x) (keyO z) = true
              rw [hk]
              exact rb.1 z hz
  termination_by a b => a.length + b.length
end Chm
end Go.Proofs.Ytbllkmhkpapgeaa
/- Csx: Puts and Deletes with versions of their own: the last one counts, in whatever order they come; conditions: none. -/
namespace Go.Proofs.Ytbllkmhkpapgeaa
namespace Chm
open Go Go.RowKit Sx Lab Vec Ojt Evt

/-- An event: its kind, its object, its version, its objects. -/
structure Ev where
  kind : Int
  o : Ob
  ver : Int
  qs : List Ob
def Ev.right (e : Ev) : Prop := rightE e.kind e.o e.ver e.qs = true
def runO (st : St) (es : List Ev) : St := es.foldl (fun st e => (apO st e.kind e.o e.ver e.qs).2.2) st
theorem run_fine {st : St} (h : Fine st) : ∀ es : List Ev, Fine (runO st es)
  | [] => h
  | e :: es => by
    have := ap_fine (kind := e.kind) (o := e.o) (ver := e.ver) (qs := e.qs) h
    exact run_fine this es
/-- Of the Puts and Deletes S that may be, those of the greatest version count. -/
structure Last (st : St) (S : List Ev) : Prop where
  fine : Fine st
  fl : st.fl = 0
  len : st.os.length ≤ S.length
  key : ∀ k : Kt, (knO st k = 0 ∧ getO st.os k = none ∧ ∀ e ∈ S, e.right → keyO e.o ≠ k) ∨
    ∃ e ∈ S, e.right ∧ keyO e.o = k ∧ knO st k = e.o.ver ∧ (∀ f ∈ S, f.right → keyO f.o = k → f.o.ver ≤ e.o.ver) ∧ getO st.os k = if e.kind = 0 then some e.o else none
theorem Last.new : Last .new [] := ⟨Fine.new, rfl, Nat.le_refl _, fun k => .inl ⟨rfl, rfl, fun _ h => by cases h⟩⟩
theorem filter_len {os : List Ob} {k : Kt} : (woO os k).length ≤ os.length := List.length_filter_le _ _
theorem wiO_len {os : List Ob} {o : Ob} : (wiO os o).length ≤ os.length + 1 := by
  unfold wiO
  rw [(sort_perm _).length_eq, List.length_append, List.length_singleton]
  have := filter_len (os := os) (k := keyO o)
  omega
theorem kn_new {st : St} {kind : Int} {o : Ob} {ver : Int} {qs : List Ob} (h : Fine st) (hk : kind = 0 ∨ kind = 1) (hr : rightE kind o ver qs = true) (hv : knO st (keyO o) < o.ver) (k : Kt) :
    knO (nxO st kind o ver qs) k = if k = keyO o then o.ver else knO st k := by
  have hlow : lowO st kind o < (versE kind o ver qs).1 := by rw [vers_is hr, if_pos hk, lowO, if_pos hk]; exact hv
  have hmono := (nxO_known h hr hlow k).1
  have hfl := kn_fl st k
  rcases hk with rfl | rfl
  · have hg := getO_wi (os := st.os) h.os hr k
    by_cases hk : k = keyO o
    · rw [if_pos hk]
      rw [if_pos hk] at hg
      refine Int.le_antisymm (knO_le.2 ⟨?_, fun x hx => ?_, fun g hgm e => ?_⟩) (kn_ob (st := nxO st 0 o ver qs) hg)
      · have h1 : (nxO st 0 o ver qs).fl = st.fl := rfl
        have h2 := kn_fl st (keyO o)
        omega
      · rw [show getO (nxO st 0 o ver qs).os k = some o from hg] at hx
        cases hx
        exact Int.le_refl _
      · exact absurd (e.trans hk) (gravesP_mem.1 hgm).2.1
    · rw [if_neg hk]
      rw [if_neg hk] at hg
      refine Int.le_antisymm (knO_le.2 ⟨hfl, fun x hx => ?_, fun g hgm e => ?_⟩) hmono
      · rw [show getO (nxO st 0 o ver qs).os k = getO st.os k from hg] at hx
        exact kn_ob hx
      · subst e
        exact kn_gr (gravesP_mem.1 hgm).1
  · have hg := getO_wo (os := st.os) (k' := keyO o) h.os.own k
    by_cases hk : k = keyO o
    · rw [if_pos hk]
      rw [if_pos hk] at hg
      have hnew : o.ver ≤ knO (nxO st 1 o ver qs) (keyO o) := kn_gr (st := nxO st 1 o ver qs) (g := (keyO o, o.ver)) (insG_mem.2 (.inl rfl))
      refine Int.le_antisymm (knO_le.2 ⟨?_, fun x hx => ?_, fun g hgm e => ?_⟩) (hk ▸ hnew)
      · have h1 : (nxO st 1 o ver qs).fl = st.fl := rfl
        have h2 := kn_fl st (keyO o)
        omega
      · rw [show getO (nxO st 1 o ver qs).os k = none from hg] at hx
        cases hx
      · rcases insG_mem.1 hgm with rfl | hgm
        · exact Int.le_refl _
        · exact absurd (e.trans hk) (gravesP_mem.1 hgm).2.1
    · rw [if_neg hk]
      rw [if_neg hk] at hg
      refine Int.le_antisymm (knO_le.2 ⟨hfl, fun x hx => ?_, fun g hgm e => ?_⟩) hmono
      · rw [show getO (nxO st 1 o ver qs).os k = getO st.os k from hg] at hx
        exact kn_ob hx
      · rcases insG_mem.1 hgm with rfl | hgm
        · exact absurd e.symm hk
        · subst e
          exact kn_gr (gravesP_mem.1 hgm).1
theorem get_new {st : St} {kind : Int} {o : Ob} {ver : Int} {qs : List Ob} (h : Fine st) (hk : kind = 0 ∨ kind = 1) (hr : rightE kind o ver qs = true) (k : Kt) :
    getO (nxO st kind o ver qs).os k = if k = keyO o then (if kind = 0 then some o else none) else getO st.os k := by
  rcases hk with rfl | rfl
  · rw [if_pos (c := (0 : Int) = 0) rfl]
    exact getO_wi h.os hr k
  · rw [if_neg (c := (1 : Int) = 0) (by decide)]
    exact getO_wo h.os.own k
theorem right_ver {e : Ev} (hk : e.kind = 0 ∨ e.kind = 1) (hr : e.right) : 1 ≤ e.o.ver := by
  obtain ⟨kind, o, ver, qs⟩ := e
  simp only at hk ⊢
  rcases hk with rfl | rfl
  · have : rightO o = true := hr
    unfold rightO at this
    simp only [Bool.and_eq_true, decide_eq_true_eq] at this
    exact this.2.1
  · exact (right_del hr).2
theorem Last.step {st : St} {S : List Ev} (h : Last st S) {e : Ev} (hk : e.kind = 0 ∨ e.kind = 1) (hl : S.length < 1000) : Last (apO st e.kind e.o e.ver e.qs).2.2 (S ++ [e]) := by
  obtain ⟨h1, h2, h3, h4⟩ := h
  have hlen : (nxO st e.kind e.o e.ver e.qs).os.length ≤ S.length + 1 := by
    rcases hk with hk | hk
    · rw [hk]
      have := wiO_len (os := st.os) (o := e.o)
      show (wiO st.os e.o).length ≤ _
      omega
    · rw [hk]
      have := filter_len (os := st.os) (k := keyO e.o)
      show (woO st.os (keyO e.o)).length ≤ _
      omega
  by_cases hr : e.right
  · have hr2 : rightE e.kind e.o e.ver e.qs = true := hr
    by_cases hv : e.o.ver ≤ knO st (keyO e.o)
    · have hs : stale st e.kind e.o e.ver e.qs := ⟨hr2, by rw [vers_is hr2, if_pos hk, lowO, if_pos hk]; exact hv⟩
      rw [stale_ap hs]
      refine ⟨h1, h2, by rw [List.length_append, List.length_singleton]; show st.os.length ≤ _; omega, fun k => ?_⟩
      rcases h4 k with ⟨g1, g2, g3⟩ | ⟨f, f1, f2, f3, f4, f5, f6⟩
      · refine .inl ⟨g1, g2, fun f hf hfr => ?_⟩
        rcases List.mem_append.1 hf with hf | hf
        · exact g3 f hf hfr
        · rw [List.mem_singleton.1 hf]
          intro he
          have := right_ver hk hr
          rw [he, g1] at hv
          omega
      · refine .inr ⟨f, List.mem_append_left _ f1, f2, f3, f4, fun g hg hgr hgk => ?_, f6⟩
        rcases List.mem_append.1 hg with hg | hg
        · exact f5 g hg hgr hgk
        · rw [List.mem_singleton.1 hg] at hgk ⊢
          rw [hgk, f4] at hv
          exact hv
    · have hap : (apO st e.kind e.o e.ver e.qs).2.2 = nxO st e.kind e.o e.ver e.qs := by
        unfold apO
        rw [if_neg (by rw [hr2]; decide), if_neg (by rw [vers_is hr2, if_pos hk, lowO, if_pos hk]; exact hv), if_neg (by omega)]
      rw [hap]
      refine ⟨nxO_fine h1 hr2, ?_, by rw [List.length_append, List.length_singleton]; exact hlen, fun k => ?_⟩
      · rcases hk with hk | hk
        · rw [hk]; exact h2
        · rw [hk]; exact h2
      rw [kn_new h1 hk hr2 (by omega), get_new h1 hk hr2]
      by_cases hke : k = keyO e.o
      · rw [if_pos hke, if_pos hke]
        refine .inr ⟨e, List.mem_append_right _ (List.mem_singleton.2 rfl), hr, hke.symm, rfl, fun f hf hfr hfk => ?_, rfl⟩
        rcases List.mem_append.1 hf with hf | hf
        · rcases h4 k with ⟨-, -, g3⟩ | ⟨g, g1, g2, g3, g4, g5, g6⟩
          · exact absurd hfk (g3 f hf hfr)
          · have := g5 f hf hfr hfk
            rw [hke] at g4
            omega
        · rw [List.mem_singleton.1 hf]
          exact Int.le_refl _
      · rw [if_neg hke, if_neg hke]
        rcases h4 k with ⟨g1, g2, g3⟩ | ⟨f, f1, f2, f3, f4, f5, f6⟩
        · refine .inl ⟨g1, g2, fun f hf hfr => ?_⟩
          rcases List.mem_append.1 hf with hf | hf
          · exact g3 f hf hfr
          · rw [List.mem_singleton.1 hf]; exact fun h => hke h.symm
        · refine .inr ⟨f, List.mem_append_left _ f1, f2, f3, f4, fun g hg hgr hgk => ?_, f6⟩
          rcases List.mem_append.1 hg with hg | hg
          · exact f5 g hg hgr hgk
          · rw [List.mem_singleton.1 hg] at hgk
            exact absurd hgk.symm hke
  · have hr2 : rightE e.kind e.o e.ver e.qs = false := Bool.eq_false_iff.2 hr
    have hap : (apO st e.kind e.o e.ver e.qs).2.2 = st := by
      unfold apO
      rw [if_pos hr2]
    rw [hap]
    refine ⟨h1, h2, by rw [List.length_append, List.length_singleton]; omega, fun k => ?_⟩
    rcases h4 k with ⟨g1, g2, g3⟩ | ⟨f, f1, f2, f3, f4, f5, f6⟩
    · refine .inl ⟨g1, g2, fun f hf hfr => ?_⟩
      rcases List.mem_append.1 hf with hf | hf
      · exact g3 f hf hfr
      · rw [List.mem_singleton.1 hf] at hfr
        exact absurd hfr hr
    · refine .inr ⟨f, List.mem_append_left _ f1, f2, f3, f4, fun g hg hgr hgk => ?_, f6⟩
      rcases List.mem_append.1 hg with hg | hg
      · exact f5 g hg hgr hgk
      · rw [List.mem_singleton.1 hg] at hgr
        exact absurd hgr hr
theorem last_run : ∀ (es S : List Ev) (st : St), Last st S → (∀ e ∈ es, e.kind = 0 ∨ e.kind = 1) → S.length + es.length ≤ 1000 → Last (runO st es) (S ++ es)
  | [], S, st, h, _, _ => by rw [List.append_nil]; exact h
  | e :: es, S, st, h, hk, hl => by
    rw [List.length_cons] at hl
    have := last_run es (S ++ [e]) _ (h.step (hk e List.mem_cons_self) (by omega)) (fun f hf => hk f (List.mem_cons_of_mem e hf)) (by rw [List.length_append, List.length_singleton]; omega)
    rw [List.append_assoc] at this
    exact this
/-- In whatever order they come. -/
theorem last_same {st st2 : St} {S T : List Ev} (h : Last st S) (g : Last st2 T) (hst : ∀ e, e ∈ S ↔ e ∈ T) (hd : ∀ e ∈ S, ∀ f ∈ S, e.o.ver = f.o.ver → e = f) : (∀ k, knO st k = knO st2 k) ∧ st.os = st2.os := by
  have both : ∀ k, knO st k = knO st2 k ∧ getO st.os k = getO st2.os k := fun k => by
    rcases h.key k with ⟨a1, a2, a3⟩ | ⟨e, e1, e2, e3, e4, e5, e6⟩
    · rcases g.key k with ⟨b1, b2, b3⟩ | ⟨f, f1, f2, f3, f4, f5, f6⟩
      · exact ⟨a1.trans b1.symm, a2.trans b2.symm⟩
      · exact absurd f3 (a3 f ((hst f).2 f1) f2)
    · rcases g.key k with ⟨b1, b2, b3⟩ | ⟨f, f1, f2, f3, f4, f5, f6⟩
      · exact absurd e3 (b3 e ((hst e).1 e1) e2)
      · have h1 := e5 f ((hst f).2 f1) f2 f3
        have h2 := f5 e ((hst e).1 e1) e2 e3
        have h3 := hd e e1 f ((hst f).2 f1) (by omega)
        subst h3
        exact ⟨e4.trans f4.symm, e6.trans f6.symm⟩
  refine ⟨fun k => (both k).1, rise_unique h.fine.os g.fine.os fun o => ?_⟩
  have key : ∀ {s t : St}, Rise s.os → Rise t.os → (∀ k, getO s.os k = getO t.os k) → o ∈ s.os → o ∈ t.os := fun hs ht hk ho => by
    have := getO_mem hs.own ho
    rw [hk] at this
    exact (getO_some this).1
  exact ⟨key h.fine.os g.fine.os fun k => (both k).2, key g.fine.os h.fine.os fun k => (both k).2.symm⟩
end Chm
end Go.Proofs.Ytbllkmhkpapgeaa
