/- What a store is, as what was written to it, and what a cache that is told of it comes to; conditions: at most 1000 writes. -/
import Derived.Test.YtbllkmhkpapgeaaCsx
import Derived.Test.YtbllkmhkpapgeaaChy
import Derived.Test.YtbllkmhkpapgeaaOobj
import Derived.Test.YtbllkmhkpapgeaaEvl
/- Sta: What a store is, as what was written to it, and what a cache that is told of it comes to; conditions: at most 1000 writes. -/
namespace Go.Proofs.Ytbllkmhkpapgeaa
namespace Stm
open Go Go.RowKit Sx Lab Vec Ojt Evt Chm

/-- A write that was done: is it a Delete, and the object with its version. -/
abbrev Wr := Bool × Ob
/-- The objects that a log leaves. -/
def osL (lg : List Wr) : List Ob := lg.foldl (fun os e => if e.1 = true then woO os (keyO e.2) else wiO os e.2) []
def graveO (k : Kt) (v : Int) : Ob := ⟨k.1, k.2.1, k.2.2, v, [], false, false, []⟩
def verO (o : Ob) (v : Int) : Ob := { o with ver := v }
def okW (e : Wr) : Prop := (e.1 = false → rightO e.2 = true) ∧ (e.1 = true → keyR (keyO e.2) = true ∧ e.2 = graveO (keyO e.2) e.2.ver)
/-- A log as a store makes it. -/
structure WfL (lg : List Wr) : Prop where
  ok : ∀ e ∈ lg, okW e
  ver : ∀ (i : Nat) e, lg[i]? = some e → e.2.ver = (i : Int) + 1
theorem WfL.nil : WfL [] := ⟨fun _ h => (by cases h), fun i e h => by simp at h⟩
theorem WfL.snoc {lg : List Wr} {e : Wr} (h : WfL lg) (he : okW e) (hv : e.2.ver = (lg.length : Int) + 1) : WfL (lg ++ [e]) :=
  ⟨fun x hx => by
    rcases List.mem_append.1 hx with hx | hx
    · exact h.ok x hx
    · rw [List.mem_singleton.1 hx]; exact he, fun i x hx => by
    by_cases hi : i < lg.length
    · rw [List.getElem?_append_left hi] at hx
      exact h.ver i x hx
    · rw [List.getElem?_append_right (by omega)] at hx
      have h0 : i - lg.length = 0 := by
        rcases hn : i - lg.length with _ | n
        · rfl
        · rw [hn] at hx; simp at hx
      rw [h0] at hx
      cases hx
      rw [hv]
      omega⟩
theorem WfL.init {lg : List Wr} {e : Wr} (h : WfL (lg ++ [e])) : WfL lg ∧ okW e ∧ e.2.ver = (lg.length : Int) + 1 :=
  ⟨⟨fun x hx => h.ok x (List.mem_append_left _ hx), fun i x hx => h.ver i x (by rw [List.getElem?_append_left (List.getElem?_eq_some_iff.1 hx).1]; exact hx)⟩,
    h.ok e (List.mem_append_right _ List.mem_cons_self), h.ver lg.length e (by rw [List.getElem?_append_right (Nat.le_refl _), Nat.sub_self]; rfl)⟩
theorem WfL.take {lg : List Wr} (h : WfL lg) (n : Nat) : WfL (lg.take n) :=
  ⟨fun e he => h.ok e (List.mem_of_mem_take he), fun i e he => by
    rw [List.getElem?_take] at he
    split at he
    · exact h.ver i e he
    · cases he⟩
theorem osL_snoc (lg : List Wr) (e : Wr) : osL (lg ++ [e]) = if e.1 = true then woO (osL lg) (keyO e.2) else wiO (osL lg) e.2 := by
  unfold osL
  rw [List.foldl_append]
  rfl
theorem snoc_ind {α : Type} {P : List α → Prop} (h0 : P []) (h1 : ∀ l a, P l → P (l ++ [a])) (l : List α) : P l := by
  have : ∀ r : List α, P r.reverse := fun r => by
    induction r with
    | nil => exact h0
    | cons a r ih => rw [List.reverse_cons]; exact h1 _ _ ih
  have h2 := this l.reverse
  rwa [List.reverse_reverse] at h2
theorem osL_all {lg : List Wr} : WfL lg → Rise (osL lg) ∧ (∀ o ∈ osL lg, o.ver ≤ lg.length ∧ 1 ≤ o.ver) ∧ (osL lg).length ≤ lg.length := by
  induction lg using snoc_ind with
  | h0 => exact fun _ => ⟨Rise.nil, (fun _ h => by cases h), Nat.le_refl _⟩
  | h1 lg e ih =>
    intro h
    obtain ⟨h1, h2, h3⟩ := h.init
    obtain ⟨g1, g2, g3⟩ := ih h1
    rw [osL_snoc, List.length_append, List.length_singleton]
    by_cases he : e.1 = true
    · rw [if_pos he]
      exact ⟨woO_rise g1, fun o ho => by have := g2 o (woO_mem.1 ho).1; omega, by have := filter_len (os := osL lg) (k := keyO e.2); omega⟩
    · rw [if_neg he]
      exact ⟨wiO_rise g1 (h2.1 (by simpa using he)), fun o ho => by
        rcases wiO_mem.1 ho with ⟨ho, -⟩ | rfl
        · have := g2 o ho; omega
        · rw [h3]; omega, by have := wiO_len (os := osL lg) (o := e.2); omega⟩
/-- An object of a low version was there at that time. -/
theorem osL_old {lg : List Wr} {o : Ob} {i : Nat} : WfL lg → o ∈ osL lg → o.ver ≤ i → o ∈ osL (lg.take i) := by
  induction lg using snoc_ind with
  | h0 => exact fun _ h => by cases h
  | h1 lg e ih =>
    intro h ho hv
    by_cases hi : lg.length + 1 ≤ i
    · rw [List.take_of_length_le (by rw [List.length_append, List.length_singleton]; omega)]; exact ho
    · obtain ⟨h1, h2, h3⟩ := h.init
      rw [List.take_append_of_le_length (by omega)]
      refine ih h1 ?_ hv
      rw [osL_snoc] at ho
      by_cases he : e.1 = true
      · rw [if_pos he] at ho
        exact (woO_mem.1 ho).1
      · rw [if_neg he] at ho
        rcases wiO_mem.1 ho with ⟨ho, -⟩ | rfl
        · exact ho
        · omega
theorem rise_get {l k : List Ob} (h1 : Rise l) (h2 : Rise k) (h : ∀ x, getO l x = getO k x) : l = k :=
  rise_unique h1 h2 fun o => ⟨fun ho => by
    have := getO_mem h1.own ho
    rw [h] at this
    exact (getO_some this).1, fun ho => by
    have := getO_mem h2.own ho
    rw [← h] at this
    exact (getO_some this).1⟩

/-! Writes. -/
def putL (lg : List Wr) (o : Ob) : Int × Int × List Wr :=
  if rightO (verO o 1) = false then (0, 1, lg)
  else if (getO (osL lg) (keyO o)).isSome = false ∧ 1000 ≤ (osL lg).length then (0, 3, lg)
  else ((lg.length : Int) + 1, 0, lg ++ [(false, verO o (lg.length + 1))])
def delL (lg : List Wr) (k : Kt) : Int × Int × List Wr :=
  if keyR k = false then (0, 1, lg)
  else if (getO (osL lg) k).isSome = false then (0, 4, lg)
  else ((lg.length : Int) + 1, 0, lg ++ [(true, graveO k (lg.length + 1))])
theorem right_ver1 {o : Ob} {v : Int} (h : rightO (verO o 1) = true) (hv : 1 ≤ v) : rightO (verO o v) = true := by
  unfold rightO verO at *
  simp only [Bool.and_eq_true, decide_eq_true_eq] at *
  exact ⟨h.1, hv, h.2.2⟩
theorem put_cases (lg : List Wr) (o : Ob) : (rightO (verO o 1) = false ∧ putL lg o = (0, 1, lg)) ∨ (rightO (verO o 1) = true ∧ getO (osL lg) (keyO o) = none ∧ 1000 ≤ (osL lg).length ∧ putL lg o = (0, 3, lg)) ∨
    (rightO (verO o 1) = true ∧ ¬ (getO (osL lg) (keyO o) = none ∧ 1000 ≤ (osL lg).length) ∧ putL lg o = ((lg.length : Int) + 1, 0, lg ++ [(false, verO o (lg.length + 1))])) := by
  unfold putL
  cases h1 : rightO (verO o 1)
  · exact .inl ⟨rfl, by rw [if_pos rfl]⟩
  · refine .inr ?_
    rw [if_neg (by decide)]
    by_cases h2 : getO (osL lg) (keyO o) = none ∧ 1000 ≤ (osL lg).length
    · exact .inl ⟨rfl, h2.1, h2.2, by rw [if_pos ⟨by rw [h2.1]; rfl, h2.2⟩]⟩
    · refine .inr ⟨rfl, h2, ?_⟩
      rw [if_neg fun h => h2 ⟨by simpa using h.1, h.2⟩]
theorem del_cases (lg : List Wr) (k : Kt) : (keyR k = false ∧ delL lg k = (0, 1, lg)) ∨ (keyR k = true ∧ getO (osL lg) k = none ∧ delL lg k = (0, 4, lg)) ∨
    (keyR k = true ∧ (∃ o, getO (osL lg) k = some o) ∧ delL lg k = ((lg.length : Int) + 1, 0, lg ++ [(true, graveO k (lg.length + 1))])) := by
  unfold delL
  cases h1 : keyR k
  · exact .inl ⟨rfl, by rw [if_pos rfl]⟩
  · refine .inr ?_
    rw [if_neg (by decide)]
    cases h2 : getO (osL lg) k with
    | none => exact .inl ⟨rfl, rfl, rfl⟩
    | some o => exact .inr ⟨rfl, ⟨o, rfl⟩, rfl⟩
theorem put_wf {lg : List Wr} (h : WfL lg) (o : Ob) : WfL (putL lg o).2.2 := by
  rcases put_cases lg o with ⟨-, e⟩ | ⟨-, -, -, e⟩ | ⟨h1, -, e⟩
  · rw [e]; exact h
  · rw [e]; exact h
  · rw [e]
    exact h.snoc ⟨fun _ => right_ver1 h1 (by omega), fun h => by cases h⟩ rfl
theorem del_wf {lg : List Wr} (h : WfL lg) (k : Kt) : WfL (delL lg k).2.2 := by
  rcases del_cases lg k with ⟨-, e⟩ | ⟨-, -, e⟩ | ⟨h1, -, e⟩
  · rw [e]; exact h
  · rw [e]; exact h
  · rw [e]
    exact h.snoc ⟨fun h => (by cases h), fun _ => ⟨h1, rfl⟩⟩ rfl
/-- A write, as the law does it. -/
def doL (lg : List Wr) (gone : Bool) (o : Ob) : Int × Int × List Wr := if gone = true then delL lg (keyO o) else putL lg o
theorem do_wf {lg : List Wr} (h : WfL lg) (gone : Bool) (o : Ob) : WfL (doL lg gone o).2.2 := by
  unfold doL
  split
  · exact del_wf h _
  · exact put_wf h _
theorem do_len (lg : List Wr) (gone : Bool) (o : Ob) : (doL lg gone o).2.2.length ≤ lg.length + 1 := by
  unfold doL
  split
  · rcases del_cases lg (keyO o) with ⟨-, e⟩ | ⟨-, -, e⟩ | ⟨h1, -, e⟩ <;> rw [e] <;> simp
  · rcases put_cases lg o with ⟨-, e⟩ | ⟨-, -, -, e⟩ | ⟨h1, -, e⟩ <;> rw [e] <;> simp

/-! What is told. -/
def kdW (e : Wr) : Int := if e.1 = true then 1 else 0
theorem right_wr {e : Wr} (h : okW e) (hv : 1 ≤ e.2.ver) : rightE (kdW e) e.2 0 [] = true := by
  unfold kdW
  by_cases he : e.1 = true
  · rw [if_pos he]
    have h1 : keyB e.2.k e.2.s e.2.n = true := (h.2 he).1
    show (keyB e.2.k e.2.s e.2.n && decide (1 ≤ e.2.ver)) = true
    rw [h1, decide_eq_true hv]
    rfl
  · rw [if_neg he]
    exact h.1 (by simpa using he)
theorem kd_two (e : Wr) : kdW e = 0 ∨ kdW e = 1 := by unfold kdW; split <;> simp
/-- A cache that was told a log. -/
structure Told (st : St) (lg : List Wr) : Prop where
  fine : Fine st
  os : st.os = osL lg
  fl : st.fl = 0
  kn : ∀ k, knO st k ≤ lg.length
theorem Told.new : Told .new [] := ⟨Fine.new, rfl, rfl, fun _ => Int.le_refl _⟩
theorem Told.step {st : St} {lg : List Wr} {e : Wr} (h : Told st lg) (hw : WfL (lg ++ [e])) (hl : lg.length < 1000) :
    ∃ ds, apO st (kdW e) e.2 0 [] = (0, ds, nxO st (kdW e) e.2 0 []) ∧ Told (nxO st (kdW e) e.2 0 []) (lg ++ [e]) := by
  obtain ⟨h1, h2, h3⟩ := hw.init
  have hr := right_wr h2 (by rw [h3]; omega)
  have hkn : knO st (keyO e.2) < e.2.ver := by have := h.kn (keyO e.2); rw [h3]; omega
  have hos : (nxO st (kdW e) e.2 0 []).os = osL (lg ++ [e]) := by
    rw [osL_snoc]
    unfold kdW
    by_cases he : e.1 = true
    · rw [if_pos he, if_pos he, ← h.os]; rfl
    · rw [if_neg he, if_neg he, ← h.os]; rfl
  have hlen := (osL_all hw).2.2
  rw [List.length_append, List.length_singleton] at hlen
  refine ⟨dlO st.os (nxO st (kdW e) e.2 0 []).os, ?_, nxO_fine h.fine hr, hos, ?_, fun k => ?_⟩
  · unfold apO
    rw [if_neg (by rw [hr]; decide), if_neg (by rw [vers_is hr, if_pos (kd_two e), lowO, if_pos (kd_two e)]; omega), if_neg (by rw [hos]; omega)]
  · rw [← h.fl]
    rcases kd_two e with he | he <;> rw [he] <;> rfl
  · rw [kn_new h.fine (kd_two e) hr hkn, List.length_append, List.length_singleton]
    have := h.kn k
    split
    · rw [h3]; omega
    · omega
/-- A snapshot may be. -/
theorem right_snap {lg : List Wr} (h : WfL lg) (hl : lg.length ≤ 1000) : rightE 2 zO lg.length (osL lg) = true := by
  obtain ⟨h1, h2, h3⟩ := osL_all h
  show (relB (osL lg) lg.length && (decide (0 ≤ (lg.length : Int)) && decide ((osL lg).length ≤ 1000))) = true
  rw [rel_iff.2 ⟨fun o ho => ⟨h1.2 o ho, (h2 o ho).1⟩, h1.1⟩, decide_eq_true (by omega), decide_eq_true (by omega)]
  rfl
/-- A cache that was told a part of a log, and then the snapshot. -/
theorem Told.snap {st : St} {lg : List Wr} {i : Nat} (h : Told st (lg.take i)) (hw : WfL lg) (hl : lg.length ≤ 1000) (h0 : 0 < lg.length) :
    ∃ ds, apO st 2 zO lg.length (osL lg) = (0, ds, nxO st 2 zO lg.length (osL lg)) ∧ (nxO st 2 zO lg.length (osL lg)).os = osL lg := by
  obtain ⟨h1, h2, h3⟩ := osL_all hw
  have hr := right_snap hw hl
  have htk : ((lg.take i).length : Int) ≤ i ∧ (lg.take i).length ≤ lg.length := by rw [List.length_take]; omega
  have hos : (nxO st 2 zO lg.length (osL lg)).os = osL lg := by
    show rlO st (osL lg) lg.length = osL lg
    refine rise_get (rlO_rise h.fine.os h1.2) h1 fun k => ?_
    rw [rlO_get h.fine.os h1.2 h1.own]
    cases hg : getO (osL lg) k with
    | none =>
      simp only
      cases hs : getO st.os k with
      | none => rfl
      | some o =>
        have := kn_ob hs
        have := h.kn k
        rw [Option.filter_some, if_neg (by rw [decide_eq_true_eq]; omega)]
    | some q =>
      simp only
      split
      · rfl
      · rename_i ht
        obtain ⟨g1, g2⟩ := getO_some hg
        have hle : q.ver ≤ knO st k := by
          rw [Bool.not_eq_true] at ht
          unfold takesO at ht
          rw [Bool.or_eq_false_iff, decide_eq_false_iff_not, g2] at ht
          omega
        have := h.kn k
        have hm := osL_old hw g1 (i := i) (by omega)
        rw [← h.os] at hm
        rw [← g2]
        exact getO_mem h.fine.os.own hm
  refine ⟨dlO st.os (nxO st 2 zO lg.length (osL lg)).os, ?_, hos⟩
  unfold apO
  rw [if_neg (by rw [hr]; decide), if_neg (by rw [vers_is hr, if_neg (by decide), lowO, if_neg (by decide), h.fl]; omega), if_neg (by rw [hos]; omega)]
/-- Nothing was written: the snapshot is stale. -/
theorem snap_none : apO .new 2 zO 0 [] = (6, [], .new) := rfl
end Stm
end Go.Proofs.Ytbllkmhkpapgeaa
/- Stb: What the document's answer for layer 9 makes of its log: Objects, Get; conditions: names of at most 1,000 bytes, at most 1,000 writes. -/
namespace Go.Proofs.Ytbllkmhkpapgeaa
namespace Stm
open Go Go.RowKit Sx Lab Vec Ojt Evt Chm
attribute [local irreducible] Go.Calls

/-- Is the i-th event the last one of its key, so far? -/
def freshB (es : List PE) (i k : Nat) (key : Kt) : Bool := ((es.take k).drop (i + 1)).all fun f => decide (keyO f.p.2 ≠ key)
theorem fresh_0 (es : List PE) (i : Nat) (key : Kt) : freshB es i (i + 1) key = true := by
  unfold freshB
  rw [List.drop_eq_nil_of_le (by rw [List.length_take]; omega)]
  rfl
theorem fresh_s {es : List PE} {i k : Nat} {key : Kt} {f : PE} (hk : i + 1 ≤ k) (hf : es[k]? = some f) : freshB es i (k + 1) key = (freshB es i k key && decide (keyO f.p.2 ≠ key)) := by
  unfold freshB
  have hlt := (List.getElem?_eq_some_iff.1 hf).1
  rw [List.take_add_one, hf, List.drop_append_of_le_length (by rw [List.length_take]; omega), List.all_append]
  simp
/-- Those that the first events leave, of which no later one tells. -/
def lastP (es : List PE) : Nat → List PO
  | 0 => []
  | i + 1 => lastP es i ++ (match es[i]? with | some e => if freshB es i es.length (keyO e.p.2) = true ∧ e.kind = 0 then [e.p] else [] | none => [])
theorem lastP_len (es : List PE) : ∀ i, (lastP es i).length ≤ i
  | 0 => Nat.le_refl _
  | i + 1 => by
    have := lastP_len es i
    unfold lastP
    rw [List.length_append]
    split
    · split
      · rw [List.length_singleton]; omega
      · rw [List.length_nil]; omega
    · rw [List.length_nil]; omega
theorem lastP_mem {es : List PE} {p : PO} : ∀ {i : Nat}, p ∈ lastP es i → ∃ e ∈ es, e.p = p
  | 0, h => by cases h
  | i + 1, h => by
    unfold lastP at h
    rcases List.mem_append.1 h with h | h
    · exact lastP_mem h
    · split at h
      · rename_i e he
        split at h
        · rw [List.mem_singleton.1 h]
          exact ⟨e, List.mem_of_getElem? he, rfl⟩
        · cases h
      · cases h
theorem fresh_snoc {es : List PE} {e : PE} {i : Nat} {key : Kt} (hi : i < es.length) : freshB (es ++ [e]) i (es.length + 1) key = (freshB es i es.length key && decide (keyO e.p.2 ≠ key)) := by
  rw [fresh_s (by omega) (by rw [List.getElem?_append_right (Nat.le_refl _), Nat.sub_self]; rfl)]
  unfold freshB
  rw [List.take_append_of_le_length (Nat.le_refl _)]
theorem lastP_app {es : List PE} {e : PE} : ∀ {i : Nat}, i ≤ es.length → lastP (es ++ [e]) i = withoutP (lastP es i) (keyO e.p.2)
  | 0, _ => rfl
  | i + 1, h => by
    obtain ⟨f, hf⟩ := getP (show i < es.length by omega)
    unfold lastP
    rw [lastP_app (by omega), List.getElem?_append_left (by omega), hf, List.length_append, List.length_singleton]
    simp only
    rw [fresh_snoc (by omega)]
    unfold withoutP
    rw [List.filter_append]
    congr 1
    by_cases hk : keyO e.p.2 = keyO f.p.2
    · rw [if_neg (by simp [hk])]
      split
      · rw [List.filter_cons, if_neg (by rw [decide_eq_true_eq]; exact fun h => h hk.symm)]; rfl
      · rfl
    · by_cases h1 : freshB es i es.length (keyO f.p.2) = true ∧ f.kind = 0
      · rw [if_pos h1, if_pos ⟨by rw [h1.1, decide_eq_true hk]; rfl, h1.2⟩, List.filter_cons, if_pos (by rw [decide_eq_true_eq]; exact fun h => hk h.symm)]; rfl
      · rw [if_neg h1, if_neg fun h => h1 ⟨by have := h.1; rw [Bool.and_eq_true] at this; exact this.1, h.2⟩]
        rfl
theorem lastP_snoc (es : List PE) (e : PE) : lastP (es ++ [e]) (es ++ [e]).length = withoutP (lastP es es.length) (keyO e.p.2) ++ (if e.kind = 0 then [e.p] else []) := by
  rw [List.length_append, List.length_singleton]
  have hg : (es ++ [e])[es.length]? = some e := by rw [List.getElem?_append_right (Nat.le_refl _), Nat.sub_self]; rfl
  rw [lastP, hg, lastP_app (Nat.le_refl _), List.length_append, List.length_singleton]
  simp only
  rw [fresh_0]
  simp
/-- A log's entry, as a write. -/
def wrE (e : PE) : Wr := (decide (e.kind = 1), e.p.2)
def wrs (es : List PE) : List Wr := es.map wrE
theorem last_is {es : List PE} : WfL (wrs es) → (∀ e ∈ es, e.kind = 0 ∨ e.kind = 1) → Chm.Own (obs (lastP es es.length)) ∧ ∀ o, o ∈ obs (lastP es es.length) ↔ o ∈ osL (wrs es) := by
  induction es using snoc_ind with
  | h0 => exact fun _ _ => ⟨List.Pairwise.nil, fun o => Iff.rfl⟩
  | h1 es e ih =>
    intro h hk
    have hsn : wrs (es ++ [e]) = wrs es ++ [wrE e] := List.map_append
    rw [hsn] at h ⊢
    obtain ⟨h1, -, -⟩ := h.init
    obtain ⟨g1, g2⟩ := ih h1 fun x hx => hk x (List.mem_append_left _ hx)
    have hke := hk e (List.mem_append_right _ List.mem_cons_self)
    rw [lastP_snoc, osL_snoc]
    have hob : obs (withoutP (lastP es es.length) (keyO e.p.2) ++ (if e.kind = 0 then [e.p] else [])) = woO (obs (lastP es es.length)) (keyO e.p.2) ++ (if e.kind = 0 then [e.p.2] else []) := by
      rw [woO_obs]
      unfold obs
      rw [List.map_append]
      congr 1
      split <;> rfl
    rw [hob]
    rcases hke with h0 | h0
    · rw [if_pos h0, if_neg (by unfold wrE; simp [h0])]
      refine ⟨wi_own g1, fun o => ?_⟩
      rw [wiO_mem, List.mem_append, woO_mem, List.mem_singleton, g2]
      rfl
    · rw [if_neg (by omega), if_pos (by unfold wrE; simp [h0]), List.append_nil]
      refine ⟨g1.filter, fun o => ?_⟩
      rw [woO_mem, woO_mem, g2]
      rfl
theorem last_os {es : List PE} (h : WfL (wrs es)) (hk : ∀ e ∈ es, e.kind = 0 ∨ e.kind = 1) : obs (sortP (lastP es es.length)) = osL (wrs es) := by
  obtain ⟨g1, g2⟩ := last_is h hk
  obtain ⟨h1, -, -⟩ := osL_all h
  rw [obs_sort]
  exact rise_unique (rise_sort g1 fun o ho => h1.2 o ((g2 o).1 ho)) h1 fun o => by rw [(sort_perm _).mem_iff, g2]
/-- The document's store: where it lies, its log. -/
def StAt (w : World) (g : Nat) (v : Value) (es : List PE) : Prop := g < w.heap.size ∧ w.cell? ⟨g, 0 + 0, none⟩ = some v ∧ EvsAt w v es
theorem keyE_load {w : World} {g b : Nat} {e : PE} (hc : ∀ (j : Nat) z, (cellsE e)[j]? = some z → w.cell? ⟨g, b + j, none⟩ = some z) : ∀ (j : Nat) z, [S e.p.2.k, S e.p.2.s, S e.p.2.n][j]? = some z → w.cell? ⟨g, b + 1 + 0 + j, none⟩ = some z := fun j z hj => by
  have h1 : (cellsE e)[j + 1]? = some z := by
    rcases j with _ | _ | _ | j
    · exact hj
    · exact hj
    · exact hj
    · simp at hj
  rw [show b + 1 + 0 + j = b + (j + 1) by omega]
  exact hc (j + 1) z h1
theorem ob_load {w : World} {g b : Nat} {e : PE} (hc : ∀ (j : Nat) z, (cellsE e)[j]? = some z → w.cell? ⟨g, b + j, none⟩ = some z) : ∀ (j : Nat) z, [S e.p.2.k, S e.p.2.s, S e.p.2.n, I e.p.2.ver, S e.p.2.c, .bool e.p.2.tm, .bool e.p.2.bs, e.p.1][j]? = some z → w.cell? ⟨g, b + 1 + j, none⟩ = some z := fun j z hj => by
  have h1 : (cellsE e)[j + 1]? = some z := by
    rcases j with _ | _ | _ | _ | _ | _ | _ | _ | j
    all_goals first | exact hj | simp at hj
  rw [show b + 1 + j = b + (j + 1) by omega]
  exact hc (j + 1) z h1

set_option maxHeartbeats 32000000 in
theorem robj9_ok (gc : Nat) (v : Value) (es : List PE) (hwf : ∀ e ∈ es, wfS e.p.2) (hl : es.length ≤ 10000) (w : World) (hc0 : StAt w gc v es) :
    Calls Try.prog 31 #[.pointer (some ⟨gc, 0, none⟩)] w fun e w' => ∃ r, e = .returned r ∧ NewRow 38 8 w w' r (sortP (lastP es es.length)).length ((sortP (lastP es es.length)).flatMap cellsO) := by
  obtain ⟨hgc, q0, hv⟩ := hc0
  obtain ⟨a, c, rfl, hat⟩ := OldRow.cells cellsE_len hv.1
  refine calls1 (args := [.pointer (some ⟨gc, 0, none⟩)]) Try.func31 rfl rfl rfl rfl ?_
  have hso := fun w' (hb : Below w.heap.size w w') u (h : OldRow w' 8 u (lastP es es.length).length ((lastP es es.length).flatMap cellsO)) =>
    rsorted_ok u (lastP es es.length) ⟨by have := lastP_len es es.length; omega, fun p hp => by obtain ⟨e, he, rfl⟩ := lastP_mem hp; exact hwf e he⟩ (by have := lastP_len es es.length; omega) w' ⟨h, fun p hp => by obtain ⟨e, he, rfl⟩ := lastP_mem hp; exact (hv.2 e he).1.below hb⟩
  repeat' (first | refine aw_seq ?_ | ((first | apply ao_val | apply aq_val); exact wants_a; (first | exact ov_nilcheck rfl | exact ov_a); (exact rfl)) | refine zy ?_ | refine zon fun _ => ?_ | refine zoa fun vr lr hr => ?_ | refine zoS (fun _ => ?_) (fun _ => ?_) | refine zqS (fun _ => ?_) (fun _ => ?_) | refine zwS (fun _ => ?_) (fun _ => ?_))
  refine aw_for (t0 := [(0, .pointer (some ⟨gc, 0, none⟩)), (3, .slice none 0 0), (4, I (0 : Nat))]) (fun q t H => ∃ (i : Nat) (v3 : Value) (l3 : Hp), q = es.length - i ∧ i ≤ es.length ∧ RowB 38 8 v3 l3 (lastP es i).length ((lastP es i).flatMap cellsO) ∧ t = [(0, .pointer (some ⟨gc, 0, none⟩)), (3, v3), (4, I i)] ∧ H = l3 ++ [])
    ⟨0, _, [], rfl, by omega, RowB.nil, rfl, rfl⟩ (by repeat (first | exact sub_nil | refine sub_cons rfl ?_)) ?_
  rintro q t H ⟨i, v3, l3, rfl, hi, r3, rfl, rfl⟩
  have hln := lastP_len es i
  obtain ⟨a3, c3, hv3⟩ := r3.len
  subst hv3
  by_cases hlt : i < es.length
  · obtain ⟨⟨kind, ⟨x, o⟩, ver, v2, qs⟩, he⟩ := getP hlt
    obtain ⟨xa, xc, hx⟩ := (hv.2 _ (List.mem_of_getElem? he)).1.len
    simp only at hx
    subst hx
    have hnx : lastP es (i + 1) = lastP es i ++ (if freshB es i es.length (keyO o) = true ∧ kind = 0 then [((.slice xa o.rs.length xc : Value), o)] else []) := by rw [lastP, he]
    obtain ⟨ga, o1, rfl, hg, hc⟩ := hat i _ (i : Int) he rfl
    have cO : ∀ (j : Nat) z, [S o.k, S o.s, S o.n, I o.ver, S o.c, .bool o.tm, .bool o.bs, .slice xa o.rs.length xc][j]? = some z → w.cell? ⟨ga, o1 + (i : Int).toNat * 11 + 1 + j, none⟩ = some z := ob_load hc
    have cK : ∀ (j : Nat) z, [S o.k, S o.s, S o.n][j]? = some z → w.cell? ⟨ga, o1 + (i : Int).toNat * 11 + 1 + 0 + j, none⟩ = some z := keyE_load hc
    have c0 : w.cell? ⟨ga, o1 + (i : Int).toNat * 11 + 0, none⟩ = some (I kind) := hc 0 _ rfl
    repeat' (first | refine aw_seq ?_ | ((first | apply ao_val | apply aq_val); exact wants_a; (first | exact ov_nilcheck rfl | exact ov_a); (exact rfl)) | refine zy ?_ | refine zon fun _ => ?_ | refine zoa fun vr lr hr => ?_ | refine zoS (fun _ => ?_) (fun _ => ?_) | refine zqS (fun _ => ?_) (fun _ => ?_) | refine zwS (fun _ => ?_) (fun _ => ?_))
    refine aw_for (t0 := [(0, .pointer (some ⟨gc, 0, none⟩)), (3, .slice a3 (lastP es i).length c3), (4, I i), (5, .bool true), (6, I (i + 1 : Nat))]) (fun q t H => ∃ (k : Nat) (b : Bool), q = es.length - k ∧ i + 1 ≤ k ∧ k ≤ es.length ∧ b = freshB es i k (keyO o) ∧ t = [(0, .pointer (some ⟨gc, 0, none⟩)), (3, .slice a3 (lastP es i).length c3), (4, I i), (5, .bool b), (6, I k)] ∧ H = l3 ++ [])
      ⟨i + 1, true, rfl, Nat.le_refl _, by omega, (fresh_0 _ _ _).symm, rfl, rfl⟩ (by repeat (first | exact sub_nil | refine sub_cons rfl ?_)) ?_
    rintro q t H ⟨k, b, rfl, hik, hki, hb, rfl, rfl⟩
    by_cases hkl : k < es.length
    · obtain ⟨⟨kind2, ⟨y, p⟩, ver2, v4, qs2⟩, hf⟩ := getP hkl
      obtain ⟨gb, o2, e1, -, hc2⟩ := hat k _ (k : Int) hf rfl
      cases e1
      have cK2 : ∀ (j : Nat) z, [S p.k, S p.s, S p.n][j]? = some z → w.cell? ⟨ga, o1 + (k : Int).toNat * 11 + 1 + 0 + j, none⟩ = some z := keyE_load hc2
      have hke := key_eq (keyO p) (keyO o)
      have hs := fresh_s (key := keyO o) hik hf
      simp only at hs
      cases b
      · repeat' (first | refine aw_seq ?_ | ((first | apply ao_val | apply aq_val); exact wants_a; (first | exact ov_nilcheck rfl | exact ov_a); (exact rfl)) | refine zy ?_ | refine zon fun _ => ?_ | refine zoa fun vr lr hr => ?_ | refine zoS (fun _ => ?_) (fun _ => ?_) | refine zqS (fun _ => ?_) (fun _ => ?_) | refine zwS (fun _ => ?_) (fun _ => ?_))
        exact lq_normal' ⟨k + 1, false, rfl, by omega, by omega, by rw [hs, ← hb]; rfl, rfl, rfl⟩ (by omega) (by repeat (first | exact sub_nil | refine sub_cons rfl ?_)) hsub_a
      · repeat' (first | refine aw_seq ?_ | ((first | apply ao_val | apply aq_val); exact wants_a; (first | exact ov_nilcheck rfl | exact ov_load_oa rfl hg cK2 rfl | exact ov_load_oa rfl hg cK rfl | exact ov_a); (exact rfl)) | refine zy ?_ | refine zon fun _ => ?_ | refine zoa fun vr lr hr => ?_ | refine zoS (fun _ => ?_) (fun _ => ?_) | refine zqS (fun _ => ?_) (fun _ => ?_) | refine zwS (fun _ => ?_) (fun _ => ?_))
        exact lq_normal' ⟨k + 1, !(eqAll [S p.k, S p.s, S p.n] [S o.k, S o.s, S o.n]), rfl, by omega, by omega, by
          rw [hs, ← hb, show eqAll [S p.k, S p.s, S p.n] [S o.k, S o.s, S o.n] = _ from hke]
          by_cases hk : keyO p = keyO o
          · rw [decide_eq_true hk, decide_eq_false (fun h => h hk)]; rfl
          · rw [decide_eq_false hk, decide_eq_true hk]; rfl, rfl, rfl⟩ (by omega) (by repeat (first | exact sub_nil | refine sub_cons rfl ?_)) hsub_a
    · obtain rfl : k = es.length := by omega
      cases b
      · rw [← hb, if_neg (by simp), List.append_nil] at hnx
        repeat' (first | refine aw_seq ?_ | ((first | apply ao_val | apply aq_val); exact wants_a; (first | exact ov_nilcheck rfl | exact ov_a); (exact rfl)) | refine zy ?_ | refine zon fun _ => ?_ | refine zoa fun vr lr hr => ?_ | refine zoS (fun _ => ?_) (fun _ => ?_) | refine zqS (fun _ => ?_) (fun _ => ?_) | refine zwS (fun _ => ?_) (fun _ => ?_))
        exact lq_normal' ⟨i + 1, _, _, rfl, by omega, by rw [hnx]; exact r3, rfl, rfl⟩ (by omega) (by repeat (first | exact sub_nil | refine sub_cons rfl ?_)) hsub_a
      · by_cases h0 : kind = 0
        · subst h0
          rw [← hb, if_pos ⟨rfl, rfl⟩] at hnx
          repeat' (first | refine aw_seq ?_ | ((first | apply ao_val | apply aq_val); exact wants_a; (first | exact ov_nilcheck rfl | exact ov_load_oa rfl hg cO rfl | exact ov_a); (exact rfl)) | refine zy ?_ | refine zon fun _ => ?_ | refine zoa fun vr lr hr => ?_ | refine zoS (fun _ => ?_) (fun _ => ?_) | refine zqS (fun _ => ?_) (fun _ => ?_) | refine zwS (fun _ => ?_) (fun _ => ?_))
          exact lq_normal' ⟨i + 1, _, _, rfl, by omega, by rw [hnx]; exact Evt.row_o hr, rfl, rfl⟩ (by omega) (by repeat (first | exact sub_nil | refine sub_cons rfl ?_)) hsub_a
        · rw [if_neg fun h => h0 h.2, List.append_nil] at hnx
          repeat' (first | refine aw_seq ?_ | ((first | apply ao_val | apply aq_val); exact wants_a; (first | exact ov_nilcheck rfl | exact ov_a); (exact rfl)) | refine zy ?_ | refine zon fun _ => ?_ | refine zoa fun vr lr hr => ?_ | refine zoS (fun _ => ?_) (fun _ => ?_) | refine zqS (fun _ => ?_) (fun _ => ?_) | refine zwS (fun _ => ?_) (fun _ => ?_))
          exact lq_normal' ⟨i + 1, _, _, rfl, by omega, by rw [hnx]; exact r3, rfl, rfl⟩ (by omega) (by repeat (first | exact sub_nil | refine sub_cons rfl ?_)) hsub_a
  · obtain rfl : i = es.length := by omega
    repeat' (first | refine aw_seq ?_ | ((first | apply ao_val | apply aq_val); exact wants_a; (first | exact ov_nilcheck rfl | exact ov_a); (exact rfl)) | refine zy ?_ | refine zon fun _ => ?_ | refine zoa fun vr lr hr => ?_ | (apply ao_callr; exact wants_a; (exact oc_func rfl); (exact rfl); (first | (intro w hw; refine hso w hw.below _ ?_; exact hw.oldr (by assumption) cut_a)); intro vr lr hr) | refine zoS (fun _ => ?_) (fun _ => ?_) | refine zqS (fun _ => ?_) (fun _ => ?_) | refine zwS (fun _ => ?_) (fun _ => ?_))
    exact fun w' hw => ⟨_, rfl, hw.below, _, hr, fun b o hm => hw.at_ b o (List.mem_append_left _ hm)⟩
theorem StAt.below {w w' : World} {g : Nat} {v : Value} {es : List PE} (h : StAt w g v es) (hb : Below w.heap.size w w') : StAt w' g v es := by
  obtain ⟨h1, h2, h3⟩ := h
  exact ⟨Nat.lt_of_lt_of_le h1 hb.size, (hb.cell h1).trans h2, h3.below hb⟩
set_option maxHeartbeats 32000000 in
theorem rget9_ok (gc : Nat) (v : Value) (es : List PE) (k : Kt) (hwf : ∀ e ∈ es, wfS e.p.2) (hl : es.length ≤ 10000) (w : World) (hc0 : StAt w gc v es) :
    Calls Try.prog 13 #[.pointer (some ⟨gc, 0, none⟩), K3 k] w fun e w' => e = .returned (getV (findK (sortP (lastP es es.length)) k)) ∧ Below w.heap.size w w' := by
  have hob := fun w' (hb : Below w.heap.size w w') => robj9_ok gc v es hwf hl w' (hc0.below hb)
  have hres : ∀ p ∈ sortP (lastP es es.length), ResAt w p.1 p.2.rs := fun p hp => by
    obtain ⟨e, he, rfl⟩ := lastP_mem (sort_mem hp)
    exact (hc0.2.2.2 e he).1
  have hlen : (sortP (lastP es es.length)).length ≤ 10000 := by rw [sort_len]; have := lastP_len es es.length; omega
  refine callsC2 (rt := 38) (args := [.pointer (some ⟨gc, 0, none⟩), K3 k]) Try.func13 rfl rfl rfl rfl ?_
  generalize sortP (lastP es es.length) = ps at hob hres hlen ⊢
  repeat' (first | refine aw_seq ?_ | refine zz ?_ | refine zon fun _ => ?_ | refine zoa fun vr lr hr => ?_ | (apply ao_callr; exact wants_a; (exact oc_func rfl); (exact rfl); (first | exact fun w hw => hob w hw.below); intro vr lr hr) | refine zoS (fun _ => ?_) (fun _ => ?_) | refine zqS (fun _ => ?_) (fun _ => ?_) | refine zwS (fun _ => ?_) (fun _ => ?_))
  revert vr lr hr
  intro v6 l6 r6
  obtain ⟨a6, c6, hv6⟩ := r6.len
  subst hv6
  refine aw_for (t0 := [(3, .pointer (some ⟨_, 0, none⟩)), (4, .pointer (some ⟨_, 0, none⟩)), (6, .slice a6 ps.length c6), (7, I (0 : Nat))]) (fun q t H => ∃ (gb gr i : Nat), q = ps.length - i ∧ i ≤ ps.length ∧ (∀ (j : Nat) (p : PO), j < i → ps[j]? = some p → keyO p.2 ≠ k) ∧ t = [(3, .pointer (some ⟨gb, 0, none⟩)), (4, .pointer (some ⟨gr, 0, none⟩)), (6, .slice a6 ps.length c6), (7, I i)] ∧ H = l6 ++ [(gr, .cells #[S [], S [], S [], I 0, S [], .bool false, .bool false, .slice none 0 0] 38), (gb, .cells #[S k.1, S k.2.1, S k.2.2] 35)]) ⟨_, _, 0, rfl, by omega, fun j p hj => by omega, rfl, rfl⟩ (by repeat (first | exact sub_nil | refine sub_cons rfl ?_)) ?_
  rintro q t H ⟨gb, gr, i, rfl, hi, hall, rfl, rfl⟩
  by_cases hlt : i < ps.length
  · obtain ⟨⟨x, o⟩, he⟩ := getP hlt
    have hra := hres _ (List.mem_of_getElem? he)
    obtain ⟨xa, xc, hx⟩ := hra.len
    simp only at hx
    subst hx
    obtain ⟨g6, cap6, cs6, h6, rfl, hc6⟩ := r6.cells_all cellsO_len (by omega)
    cases h6
    have slA : sl (0 + (i : Int).toNat * 8) 8 cs6 = some [S o.k, S o.s, S o.n, I o.ver, S o.c, .bool o.tm, .bool o.bs, .slice xa o.rs.length xc] := sl_of (vs := cellsO (.slice xa o.rs.length xc, o)) (.inl (by rw [cellsO_len]; omega)) fun j y hj => hc6 i _ (i : Int) j y he rfl hj
    have slK : sl (0 + (i : Int).toNat * 8 + 0) 3 cs6 = some [S o.k, S o.s, S o.n] := sl_of (vs := [S o.k, S o.s, S o.n]) (.inl (Nat.zero_lt_succ _)) fun j y hj => hc6 i _ (i : Int) j y he rfl (by
      rcases j with _ | _ | _ | j
      · exact hj
      · exact hj
      · exact hj
      · simp at hj)
    have hke := key_eq (keyO o) k
    by_cases hk : keyO o = k
    · rw [show findK ps k = some (.slice xa o.rs.length xc, o) by
        unfold findK
        rw [List.find?_eq_some_iff_getElem]
        refine ⟨decide_eq_true hk, i, hlt, (List.getElem?_eq_some_iff.1 he).2, fun j hj => ?_⟩
        have := hall j _ hj (List.getElem?_eq_getElem (by omega))
        simpa using this]
      rw [decide_eq_true hk] at hke
      repeat' (first | refine aw_seq ?_ | refine zz ?_ | refine zon fun _ => ?_ | refine zoa fun vr lr hr => ?_ | refine zoS (fun _ => ?_) (fun _ => ?_) | refine zqS (fun _ => ?_) (fun _ => ?_) | refine zwS (fun _ => ?_) (fun _ => ?_))
      exact fun w' hw => ⟨rfl, hw.below⟩
    · rw [decide_eq_false hk] at hke
      repeat' (first | refine aw_seq ?_ | refine zz ?_ | refine zon fun _ => ?_ | refine zoa fun vr lr hr => ?_ | refine zoS (fun _ => ?_) (fun _ => ?_) | refine zqS (fun _ => ?_) (fun _ => ?_) | refine zwS (fun _ => ?_) (fun _ => ?_))
      exact lq_normal' ⟨gb, gr, i + 1, rfl, by omega, fun j p hj hp => by
        by_cases e1 : j = i
        · subst e1; rw [he] at hp; cases hp; exact hk
        · exact hall j p (by omega) hp, rfl, rfl⟩ (by omega) (by repeat (first | exact sub_nil | refine sub_cons rfl ?_)) hsub_a
  · obtain rfl : i = ps.length := by omega
    rw [show findK ps k = none by
      unfold findK
      rw [List.find?_eq_none]
      intro p hp
      obtain ⟨j, hj⟩ := List.getElem?_of_mem hp
      simpa using hall j p (List.getElem?_eq_some_iff.1 hj).1 hj]
    repeat' (first | refine aw_seq ?_ | refine zz ?_ | refine zon fun _ => ?_ | refine zoa fun vr lr hr => ?_ | refine zoS (fun _ => ?_) (fun _ => ?_) | refine zqS (fun _ => ?_) (fun _ => ?_) | refine zwS (fun _ => ?_) (fun _ => ?_))
    exact fun w' hw => ⟨rfl, hw.below⟩
end Stm
end Go.Proofs.Ytbllkmhkpapgeaa
/- Stc: The document's answer for layer 9: Put, Delete, Snapshot, and whether two logs are one; conditions: names of at most 1,000 bytes, at most 1,000 writes. -/
namespace Go.Proofs.Ytbllkmhkpapgeaa
namespace Stm
open Go Go.RowKit Sx Lab Vec Ojt Evt Chm
attribute [local irreducible] Go.Calls

/-- append of a row of the call's own to another one. -/
theorem ao_append_b {P : Program} {E : Env} {Q : Exit → Tm → Hp → Prop} {t : Tm} {H : Hp} {ops : Array Oper} {rest : List Oper} {d : Nat} {x y : Operand} {t1 ty2 e e2 : TypeId} {sz by_ : Nat} {pos : String} {af : Array Edge} {gd : Option (Nat × Bool)} {v u : Value} {l R k R2 : Hp} {n m : Nat} {xs news : List Value} [TySl P t1 e sz by_]
    (hw : Wants ops t gd) (hx : ev t x = some v) (hrow : RowB e sz v l n xs) (hy : ev t y = some u) (hrow2 : RowB e2 sz u k m news) (hk : Cut H k R2) (hcut : Cut H l R)
    (hf : news.all flat = true) (hbd : (n + m) * by_ ≤ 140737488355328) (h63 : n + m ≤ 9223372036854775807) (hd : Nat.blt d E.n = true)
    (h : ∀ v' l', RowB e sz v' l' (n + m) (xs ++ news) → ao P E ops Q rest ((d, v') :: t) (l' ++ R)) :
    ao P E ops Q (⟨some d, .call ⟨.builtin .append, #[x, y], #[t1, t1]⟩, ty2, pos, af, gd⟩ :: rest) t H := by
  rcases Nat.eq_zero_or_pos m with h0 | h0
  · subst h0
    obtain ⟨a, c, rfl⟩ := hrow2.len
    have hn0 : news = [] := List.eq_nil_of_length_eq_zero (by simpa using hrow2.1)
    subst hn0
    refine ao_append0 hw hx hrow hy hd ?_
    have := h v l (by simpa using hrow)
    unfold ao at this ⊢
    exact fun a w ht hh => this a w ht (hh.perm hcut)
  · obtain ⟨g, cap, cs, rfl, -⟩ := hrow2.open h0
    refine ao_append_g hw hx hrow hy hcut hrow2.1 (fun w hh j u hj => ?_) hf h0 hbd h63 hd h
    obtain ⟨g2, o2, c2, e1, -, hcells⟩ := (hh.oldr hrow2 hk).open h0
    cases e1
    rw [add_off]
    exact hcells j u hj

/-- An entry of the log that may be. -/
structure okE (w : World) (e : PE) : Prop where
  res : ResAt w e.p.1 e.p.2.rs
  wf : wfS e.p.2
  kind : e.kind = 0 ∨ e.kind = 1
  ver : e.ver = 0
  v : e.v = .slice none 0 0
  qs : e.qs = []
theorem okE.below {w w' : World} {e : PE} (h : okE w e) (hb : Below w.heap.size w w') : okE w' e := ⟨h.res.below hb, h.wf, h.kind, h.ver, h.v, h.qs⟩
/-- The document's store, in the own heap. -/
structure RSt (w0 : World) (es : List PE) (gc : Nat) (l : Hp) : Prop where
  ok : ∀ e ∈ es, okE w0 e
  at_ : ∃ v lv, l = (gc, .cells #[v] 30 (0, 0)) :: lv ∧ RowB 50 11 v lv es.length (es.flatMap cellsE)
theorem evs_old {w0 w : World} {n : Nat} {H R lv : Hp} {v : Value} {es : List PE} (h : RepH ⟨w0.heap.size, w0, n⟩ H w) (hlv : RowB 50 11 v lv es.length (es.flatMap cellsE)) (c1 : Cut H lv R) (hok : ∀ e ∈ es, okE w0 e) : EvsAt w v es :=
  ⟨h.oldr hlv c1, fun e he => ⟨(hok e he).res.below h.below, by rw [(hok e he).v, (hok e he).qs]; exact ⟨OldRow.nil, fun p hp => by cases hp⟩⟩⟩
theorem stAt_of {w0 w : World} {n : Nat} {H R lv : Hp} {gc : Nat} {v : Value} {es : List PE} (h : RepH ⟨w0.heap.size, w0, n⟩ H w) (hb : Has H gc (.cells #[v] 30 (0, 0))) (hlv : RowB 50 11 v lv es.length (es.flatMap cellsE)) (c1 : Cut H lv R) (hok : ∀ e ∈ es, okE w0 e) : StAt w gc v es := by
  have hg := (h.has hb).2
  have hg2 : w.heap[gc]? = some (.cells (List.toArray [v]) 30 (0, 0)) := hg
  exact ⟨(Array.getElem?_eq_some_iff.1 hg).1, by rw [cell_of hg2]; rfl, evs_old h hlv c1 hok⟩
theorem RSt.stAt {w0 w : World} {n : Nat} {H R l : Hp} {gc : Nat} {es : List PE} (h : RSt w0 es gc l) (hw : RepH ⟨w0.heap.size, w0, n⟩ H w) (hc : Cut H l R) : ∃ v, StAt w gc v es := by
  obtain ⟨v, lv, rfl, h1⟩ := h.at_
  have hb : Has H gc (.cells #[v] 30 (0, 0)) := by
    unfold Has
    exact (List.Perm.mem_iff hc).2 (List.mem_append_left _ List.mem_cons_self)
  have hc2 : Cut H lv ((gc, .cells #[v] 30 (0, 0)) :: R) := by
    unfold Cut at *
    refine hc.trans ?_
    exact List.perm_middle.symm
  exact ⟨v, stAt_of hw hb h1 hc2 h.ok⟩
theorem cellsE_flat {w : World} {es : List PE} (h : ∀ e ∈ es, okE w e) : (es.flatMap cellsE).all flat = true := by
  rw [List.all_eq_true]
  intro x hx
  obtain ⟨e, he, hxe⟩ := List.mem_flatMap.1 hx
  obtain ⟨a, c, hr⟩ := (h e he).res.len
  have hv := (h e he).v
  unfold cellsE at hxe
  rw [hr, hv] at hxe
  simp only [List.mem_cons, List.not_mem_nil, or_false] at hxe
  rcases hxe with h | h | h | h | h | h | h | h | h | h | h <;> subst h <;> rfl
theorem evs_snoc {v : Value} {k : Hp} {es : List PE} {x : Value} {o : Ob} {kind : Int} {e : TypeId} (h : RowB e 11 v k (0 + es.length + 1) ([] ++ es.flatMap cellsE ++ [I kind, S o.k, S o.s, S o.n, I o.ver, S o.c, .bool o.tm, .bool o.bs, x, I 0, .slice none 0 0])) :
    RowB e 11 v k (es ++ [(⟨kind, (x, o), 0, .slice none 0 0, []⟩ : PE)]).length ((es ++ [(⟨kind, (x, o), 0, .slice none 0 0, []⟩ : PE)]).flatMap cellsE) := by
  rw [Nat.zero_add, List.nil_append] at h
  rw [List.length_append, List.flatMap_append]
  exact h
/-- What a write leaves. -/
def Wrote (w0 : World) (n : Nat) (x : Int × Int × List Wr) (gc : Nat) (R : Hp) (r : Value) (H' : Hp) : Prop :=
  ∃ es l, r = .tuple #[I x.1, I x.2.1] ∧ H' = l ++ R ∧ RSt w0 es gc l ∧ wrs es = x.2.2 ∧ es.length ≤ n + 1
theorem find_st {es : List PE} (h : WfL (wrs es)) (hk : ∀ e ∈ es, e.kind = 0 ∨ e.kind = 1) (k : Kt) : getO (osL (wrs es)) k = (findK (sortP (lastP es es.length)) k).map (·.2) := by rw [← last_os h hk, getO_obs]
theorem len_st {es : List PE} (h : WfL (wrs es)) (hk : ∀ e ∈ es, e.kind = 0 ∨ e.kind = 1) : (osL (wrs es)).length = (sortP (lastP es es.length)).length := by rw [← last_os h hk, obs_len]

set_option maxHeartbeats 64000000 in
theorem rput9_ok {m : Nat} {w0 : World} {gc : Nat} {es : List PE} {l : Hp} (h : RSt w0 es gc l) (hwl : WfL (wrs es)) (hl : es.length ≤ 1000) (o : Ob) (x : Value) (hwo : wfS o) (ho : ResAt w0 x o.rs) (R : Hp) :
    CallsH Try.prog ⟨w0.heap.size, w0, m⟩ 11 [.pointer (some ⟨gc, 0, none⟩), OV o x] (l ++ R) (Wrote w0 es.length (putL (wrs es) o) gc R) := by
  have hkd : ∀ e ∈ es, e.kind = 0 ∨ e.kind = 1 := fun e he => (h.ok e he).kind
  have hfs := find_st hwl hkd (keyO o)
  have hls := len_st hwl hkd
  have hwf : ∀ e ∈ es, wfS e.p.2 := fun e he => (h.ok e he).wf
  obtain ⟨hok, v, lv, rfl, hlv⟩ := h
  rw [List.cons_append]
  obtain ⟨xa, xc, rfl⟩ := ho.len
  obtain ⟨av, cv, rfl⟩ := hlv.len
  have hfl := cellsE_flat hok
  have hln : (wrs es).length = es.length := List.length_map _
  have hrt : ∀ w', Below w0.heap.size w0 w' → Calls Try.prog 30 #[.agg #[S o.k, S o.s, S o.n, I 1, S o.c, .bool o.tm, .bool o.bs, .slice xa o.rs.length xc]] w' fun e w'' => e = .returned (.bool (rightO (verO o 1))) ∧ Below w'.heap.size w' w'' := fun w' hb => Ojt.rright_ok (verO o 1) (.slice xa o.rs.length xc) (wfS.wfO (o := verO o 1) hwo) w' (ho.below hb)
  have hgt := fun w' (h : StAt w' gc (.slice av es.length cv) es) => rget9_ok gc _ es (keyO o) hwf (by omega) w' h
  have hob := fun w' (h : StAt w' gc (.slice av es.length cv) es) => robj9_ok gc _ es hwf (by omega) w' h
  have hres : ∀ p ∈ sortP (lastP es es.length), ResAt w0 p.1 p.2.rs := fun p hp => by
    obtain ⟨e, he, rfl⟩ := lastP_mem (sort_mem hp)
    exact (hok e he).res
  have hpl : (sortP (lastP es es.length)).length ≤ 1000 := by rw [sort_len]; have := lastP_len es es.length; omega
  refine callsH2 (args := [.pointer (some ⟨gc, 0, none⟩), OV o (.slice xa o.rs.length xc)]) Try.func11 rfl rfl rfl rfl ?_
  generalize sortP (lastP es es.length) = ps at hfs hls hgt hob hres hpl
  have same : ∀ er : Int, Wrote w0 es.length (0, er, wrs es) gc R (.tuple #[I 0, I er]) ((gc, .cells #[.slice av es.length cv] 30 (0, 0)) :: (lv ++ R)) := fun er => ⟨es, _, rfl, by rw [← List.cons_append], ⟨hok, _, lv, rfl, hlv⟩, rfl, by omega⟩
  cases hr : rightO (verO o 1)
  · rw [hr] at hrt
    rw [show putL (wrs es) o = (0, 1, wrs es) by unfold putL; rw [if_pos hr]]
    repeat' (first | refine aw_seq ?_ | refine zz ?_ | refine zon fun _ => ?_ | refine zoa fun vr lr hr => ?_ | ((first | apply ao_call | apply aq_call); exact wants_a; (first | exact oc_func rfl | exact oc_clos rfl rfl); (exact rfl); (first | exact fun w hw => hrt w hw.below)) | refine zoS (fun _ => ?_) (fun _ => ?_) | refine zqS (fun _ => ?_) (fun _ => ?_) | refine zwS (fun _ => ?_) (fun _ => ?_))
    exact ⟨_, _, List.Sublist.cons _ (List.Sublist.cons _ (List.Sublist.refl _)), List.Perm.refl _, same 1⟩
  rw [hr] at hrt
  obtain ⟨q, ya, yc, b, hgv, hb⟩ : ∃ (q : Ob) (ya : Option Addr) (yc : Nat) (b : Bool), Chm.getV (findK ps (keyO o)) = .tuple #[OV q (.slice ya q.rs.length yc), .bool b] ∧ b = (getO (osL (wrs es)) (keyO o)).isSome := by
    rw [hfs]
    cases hfk : findK ps (keyO o) with
    | none => exact ⟨zO, none, 0, false, rfl, rfl⟩
    | some p =>
      obtain ⟨ya, yc, hy⟩ := (hres p (List.mem_of_find?_eq_some hfk)).len
      obtain ⟨y, q⟩ := p
      simp only at hy
      subst hy
      exact ⟨q, ya, yc, true, rfl, rfl⟩
  rw [hgv] at hgt
  repeat' (first | refine aw_cutI_at (id := 9) (fun t H => putL (wrs es) o = ((es.length : Int) + 1, 0, wrs es ++ [(false, verO o (es.length + 1))]) ∧ ∃ gx, t = [(0, .pointer (some ⟨gc, 0, none⟩)), (6, .pointer (some ⟨gx, 0, none⟩))] ∧ H = (gx, .cells #[S o.k, S o.s, S o.n, I 1, S o.c, .bool o.tm, .bool o.bs, .slice xa o.rs.length xc] 38 (0, 0)) :: (gc, .cells #[.slice av es.length cv] 30 (0, 0)) :: (lv ++ R)) ?_ ?_ | refine aw_cutI_at2 (id := 9) (fun t H => putL (wrs es) o = ((es.length : Int) + 1, 0, wrs es ++ [(false, verO o (es.length + 1))]) ∧ ∃ gx, t = [(0, .pointer (some ⟨gc, 0, none⟩)), (6, .pointer (some ⟨gx, 0, none⟩))] ∧ H = (gx, .cells #[S o.k, S o.s, S o.n, I 1, S o.c, .bool o.tm, .bool o.bs, .slice xa o.rs.length xc] 38 (0, 0)) :: (gc, .cells #[.slice av es.length cv] 30 (0, 0)) :: (lv ++ R)) ?_ ?_ | refine aw_seq ?_ | ((first | apply ao_val | apply aq_val); exact wants_a; (first | exact ov_nilcheck rfl | exact ov_a); (exact rfl)) | refine zy ?_ | refine zon fun _ => ?_ | refine zoa fun vr lr hr => ?_ | ((first | apply ao_call | apply aq_call); exact wants_a; (first | exact oc_func rfl | exact oc_clos rfl rfl); (exact rfl); (first | exact fun w hw => hrt w hw.below | exact fun w hw => hgt w (stAt_of hw has_a hlv cut_a hok))))
  · cases b
    · repeat' (first | refine aw_seq ?_ | ((first | apply ao_val | apply aq_val); exact wants_a; (first | exact ov_nilcheck rfl | exact ov_a); (exact rfl)) | refine zy ?_ | refine zon fun _ => ?_ | refine zoa fun vr lr hr => ?_ | (apply ao_callr; exact wants_a; (exact oc_func rfl); (exact rfl); (first | exact fun w hw => hob w (stAt_of hw has_a hlv cut_a hok)); intro vr lr hr) | refine zoS (fun _ => ?_) (fun _ => ?_) | refine zqS (fun _ => ?_) (fun _ => ?_) | refine zwS (fun _ => ?_) (fun _ => ?_))
      revert vr lr hr
      intro v6 l6 r6
      obtain ⟨a6, c6, hv6⟩ := r6.len
      subst hv6
      by_cases hfull : 1000 ≤ ps.length
      · rw [show putL (wrs es) o = (0, 3, wrs es) by unfold putL; rw [if_neg (by rw [hr]; decide), if_pos ⟨hb.symm, by rw [hls]; exact hfull⟩]]
        repeat' (first | refine aw_seq ?_ | refine zz ?_ | refine zon fun _ => ?_ | refine zoa fun vr lr hr => ?_ | refine zoS (fun _ => ?_) (fun _ => ?_) | refine zqS (fun _ => ?_) (fun _ => ?_) | refine zwS (fun _ => ?_) (fun _ => ?_))
        exact ⟨_, _, hsub_a, List.Perm.refl _, same 3⟩
      · repeat' (first | refine aw_seq ?_ | refine zz ?_ | refine zon fun _ => ?_ | refine zoa fun vr lr hr => ?_ | refine zoS (fun _ => ?_) (fun _ => ?_) | refine zqS (fun _ => ?_) (fun _ => ?_) | refine zwS (fun _ => ?_) (fun _ => ?_))
        exact ci_normal ⟨by unfold putL; rw [if_neg (by rw [hr]; decide), if_neg fun h => hfull (by rw [← hls]; exact h.2), hln], _, rfl, rfl⟩ (by repeat (first | exact sub_nil | refine sub_cons rfl ?_)) hsub_a
    · repeat' (first | refine aw_seq ?_ | ((first | apply ao_val | apply aq_val); exact wants_a; (first | exact ov_nilcheck rfl | exact ov_a); (exact rfl)) | refine zy ?_ | refine zon fun _ => ?_ | refine zoa fun vr lr hr => ?_ | refine zoS (fun _ => ?_) (fun _ => ?_) | refine zqS (fun _ => ?_) (fun _ => ?_) | refine zwS (fun _ => ?_) (fun _ => ?_))
      exact ci_normal ⟨by unfold putL; rw [if_neg (by rw [hr]; decide), if_neg (fun h => by have := h.1; rw [← hb] at this; cases this), hln], _, rfl, rfl⟩ (by repeat (first | exact sub_nil | refine sub_cons rfl ?_)) hsub_a
  rintro t H ⟨hput, gx, rfl, rfl⟩
  rw [hput]
  repeat' (first | (apply ao_nilh; exact hsub_a) | apply ao_nil | apply aq_nil | apply ah_end | ((first | apply ao_val | apply aq_val | (apply ah_take; (exact rfl))); exact wants_a; (first | exact ov_nilcheck rfl | exact ov_a); (exact rfl)) | ((first | apply ao_skip | apply aq_skip | (apply ah_skip; (exact rfl))); exact nots_a; (exact rfl)) | (refine ao_is ?_; first | (apply ao_new; exact wants_a; exact on_a; (exact rfl); intro _) | (apply ao_store; exact wants_a; exact ow_a; exact upd_a) | (apply ao_valw; exact wants_a; exact ox_a; (exact rfl); exact upd_a) | (apply ao_skip0; exact nots_a) | (apply ao_append; exact wants_a; (exact rfl); assumption; (exact rfl); exact cut_a; exact has_a; (exact rfl); (exact rfl); omega; omega; omega; (exact rfl); intro vr lr hr)) | (apply ao_append_b; exact wants_a; exact rfl; exact RowB.lit0; exact rfl; exact hlv; exact cut_a; exact cut_a; exact hfl; omega; omega; exact rfl; intro vr lr hr) | (apply ah_one; (exact rfl)) | (apply ah_two; (exact rfl); (exact rfl)) | (apply ah_three; (exact rfl); (exact rfl); (exact rfl)) | (refine aw_is ?_; first | refine aw_cutI_at (id := 11) (fun t H => ∃ gx v l, RowB 50 11 v l (0 + es.length + 1) ([] ++ es.flatMap cellsE ++ [I 0, S o.k, S o.s, S o.n, I (es.length + 1), S o.c, .bool o.tm, .bool o.bs, .slice xa o.rs.length xc, I 0, .slice none 0 0]) ∧ t = [(6, .pointer (some ⟨gx, 0, none⟩))] ∧ H = l ++ ((gx, .cells #[S o.k, S o.s, S o.n, I (es.length + 1), S o.c, .bool o.tm, .bool o.bs, .slice xa o.rs.length xc] 38 (0, 0)) :: (gc, .cells #[v] 30 (0, 0)) :: R)) ?_ ?_ | refine aw_cutI_at2 (id := 11) (fun t H => ∃ gx v l, RowB 50 11 v l (0 + es.length + 1) ([] ++ es.flatMap cellsE ++ [I 0, S o.k, S o.s, S o.n, I (es.length + 1), S o.c, .bool o.tm, .bool o.bs, .slice xa o.rs.length xc, I 0, .slice none 0 0]) ∧ t = [(6, .pointer (some ⟨gx, 0, none⟩))] ∧ H = l ++ ((gx, .cells #[S o.k, S o.s, S o.n, I (es.length + 1), S o.c, .bool o.tm, .bool o.bs, .slice xa o.rs.length xc] 38 (0, 0)) :: (gc, .cells #[v] 30 (0, 0)) :: R)) ?_ ?_ | (apply aw_held (id := 10) (pl := (.t 0 (.t 2 (.t 3 (.t 4 (.t 7 (.t 8 (.v 1 (.w 5 (.w 6 (.o 9 (.o 10 (.t 11 (.t 12 (.o 13 .e))))) 9 (.o 6 (.o 10 (.t 11 (.t 12 (.o 13 .e)))))) 9 (.o 5 (.o 6 (.o 10 (.t 11 (.t 12 (.o 13 .e))))))) 5 (.w 1 (.w 6 (.o 9 (.o 10 (.t 11 (.t 12 (.o 13 .e))))) 9 (.o 6 (.o 10 (.t 11 (.t 12 (.o 13 .e)))))) 9 (.o 1 (.o 6 (.o 10 (.t 11 (.t 12 (.o 13 .e))))))) 9 (.w 1 (.o 5 (.o 6 (.o 10 (.t 11 (.t 12 (.o 13 .e)))))) 5 (.o 1 (.o 6 (.o 10 (.t 11 (.t 12 (.o 13 .e))))))))))))))); (kernel_rfl); (kernel_rfl); (kernel_rfl); (solve | (apply hs_keep; apply hs_skip; exact List.Sublist.refl _))) | refine aw_seq ?_ | refine aw_block ?_ | refine aw_region ?_ | refine aw_skip ?_ | refine aw_exit ?_ | refine aw_ret ?_ | refine aw_label ?_ | refine aw_scope ?_ | refine aw_cond_t rfl (by with_reducible rfl) ?_ | refine aw_cond_f rfl (by with_reducible rfl) ?_ | refine aw_draw (by kernel_rfl) (by kernel_rfl) ?_) | (first | (refine ah_is ?_; (fail_if_success first | refine ah_glit (b := true) rfl rfl rfl (by with_reducible rfl) ?_ | refine ah_glit (b := false) rfl rfl rfl (by with_reducible rfl) ?_); apply ah_gt; (exact rfl); (exact rfl); (exact rfl); exact t_a) | ((refine ao_is ?_; (fail_if_success first | refine ao_glit (b := true) rfl rfl (by with_reducible rfl) ?_ | refine ao_glit (b := false) rfl rfl (by with_reducible rfl) ?_)); apply ao_gt; (exact rfl); (exact rfl); exact t_a) | ((refine aq_is ?_; (fail_if_success first | refine aq_glit (b := true) rfl rfl (by with_reducible rfl) ?_ | refine aq_glit (b := false) rfl rfl (by with_reducible rfl) ?_)); apply aq_gt; (exact rfl); (exact rfl); exact t_a) | (apply aw_ct; (exact rfl); exact t_a)) | (first | (refine ah_is ?_; (fail_if_success first | refine ah_glit (b := true) rfl rfl rfl (by with_reducible rfl) ?_ | refine ah_glit (b := false) rfl rfl rfl (by with_reducible rfl) ?_); apply ah_gf; (exact rfl); (exact rfl); (exact rfl); exact f_a) | ((refine ao_is ?_; (fail_if_success first | refine ao_glit (b := true) rfl rfl (by with_reducible rfl) ?_ | refine ao_glit (b := false) rfl rfl (by with_reducible rfl) ?_)); apply ao_gf; (exact rfl); (exact rfl); exact f_a) | ((refine aq_is ?_; (fail_if_success first | refine aq_glit (b := true) rfl rfl (by with_reducible rfl) ?_ | refine aq_glit (b := false) rfl rfl (by with_reducible rfl) ?_)); apply aq_gf; (exact rfl); (exact rfl); exact f_a) | (apply aw_cf; (exact rfl); exact f_a)) | refine at_normal ?_ | refine at_exit ?_ | refine at_ret ?_ | refine ib_normal ?_ | refine ib_exit ?_ | refine ib_other ?_ | refine ib_ret ?_ | refine lq_exit ?_ | refine lq_ret ?_ | refine ci_ret ?_ | refine ci_exit ?_ | refine r1_ret rfl ?_ | refine r1_normal rfl ?_ | refine r2_ret rfl rfl ?_ | refine r2_normal rfl rfl ?_ | refine r3_ret rfl rfl rfl ?_ | refine r3_normal rfl rfl rfl ?_ | refine ng_normal ?_ | refine ng_exit ?_ | refine ng_ret ?_ | (apply rt_ret; (exact rfl); (exact rfl); (exact rfl); exact has_a; exact has_a; (exact rfl); (exact rfl)) | (apply rc1_ret; (exact rfl); exact has_a; (exact rfl)) | (apply rc2_ret; (exact rfl); exact has_a; (exact rfl); (exact rfl)) | (refine ao_is ?_; (fail_if_success first | refine ao_glit (b := true) rfl rfl (by with_reducible rfl) ?_ | refine ao_glit (b := false) rfl rfl (by with_reducible rfl) ?_); refine ao_gbool rfl rfl (fun _ => ?_) (fun _ => ?_)) | (refine aq_is ?_; (fail_if_success first | refine aq_glit (b := true) rfl rfl (by with_reducible rfl) ?_ | refine aq_glit (b := false) rfl rfl (by with_reducible rfl) ?_); refine aq_gbool rfl rfl (fun _ => ?_) (fun _ => ?_)) | (refine aw_is ?_; refine aw_cond rfl (fun _ => ?_) (fun _ => ?_)))
  all_goals try (obtain ⟨xv, yv, hxv⟩ := hr.len; subst hxv)
  repeat' (first | (apply ao_nilh; exact hsub_a) | apply ao_nil | apply aq_nil | apply ah_end | ((first | apply ao_val | apply aq_val | (apply ah_take; (exact rfl))); exact wants_a; (first | exact ov_nilcheck rfl | exact ov_a); (exact rfl)) | ((first | apply ao_skip | apply aq_skip | (apply ah_skip; (exact rfl))); exact nots_a; (exact rfl)) | (refine ao_is ?_; first | (apply ao_new; exact wants_a; exact on_a; (exact rfl); intro _) | (apply ao_store; exact wants_a; exact ow_a; exact upd_a) | (apply ao_valw; exact wants_a; exact ox_a; (exact rfl); exact upd_a) | (apply ao_skip0; exact nots_a) | (apply ao_append; exact wants_a; (exact rfl); assumption; (exact rfl); exact cut_a; exact has_a; (exact rfl); (exact rfl); omega; omega; omega; (exact rfl); intro vr lr hr)) | (apply ah_one; (exact rfl)) | (apply ah_two; (exact rfl); (exact rfl)) | (apply ah_three; (exact rfl); (exact rfl); (exact rfl)) | (refine aw_is ?_; first | (apply aw_held (id := 10) (pl := (.t 0 (.t 2 (.t 3 (.t 4 (.t 7 (.t 8 (.v 1 (.w 5 (.w 6 (.o 9 (.o 10 (.t 11 (.t 12 (.o 13 .e))))) 9 (.o 6 (.o 10 (.t 11 (.t 12 (.o 13 .e)))))) 9 (.o 5 (.o 6 (.o 10 (.t 11 (.t 12 (.o 13 .e))))))) 5 (.w 1 (.w 6 (.o 9 (.o 10 (.t 11 (.t 12 (.o 13 .e))))) 9 (.o 6 (.o 10 (.t 11 (.t 12 (.o 13 .e)))))) 9 (.o 1 (.o 6 (.o 10 (.t 11 (.t 12 (.o 13 .e))))))) 9 (.w 1 (.o 5 (.o 6 (.o 10 (.t 11 (.t 12 (.o 13 .e)))))) 5 (.o 1 (.o 6 (.o 10 (.t 11 (.t 12 (.o 13 .e))))))))))))))); (kernel_rfl); (kernel_rfl); (kernel_rfl); (solve | (apply hs_keep; apply hs_skip; exact List.Sublist.refl _))) | refine aw_seq ?_ | refine aw_block ?_ | refine aw_region ?_ | refine aw_skip ?_ | refine aw_exit ?_ | refine aw_ret ?_ | refine aw_label ?_ | refine aw_scope ?_ | refine aw_cond_t rfl (by with_reducible rfl) ?_ | refine aw_cond_f rfl (by with_reducible rfl) ?_ | refine aw_draw (by kernel_rfl) (by kernel_rfl) ?_) | (first | (refine ah_is ?_; (fail_if_success first | refine ah_glit (b := true) rfl rfl rfl (by with_reducible rfl) ?_ | refine ah_glit (b := false) rfl rfl rfl (by with_reducible rfl) ?_); apply ah_gt; (exact rfl); (exact rfl); (exact rfl); exact t_a) | ((refine ao_is ?_; (fail_if_success first | refine ao_glit (b := true) rfl rfl (by with_reducible rfl) ?_ | refine ao_glit (b := false) rfl rfl (by with_reducible rfl) ?_)); apply ao_gt; (exact rfl); (exact rfl); exact t_a) | ((refine aq_is ?_; (fail_if_success first | refine aq_glit (b := true) rfl rfl (by with_reducible rfl) ?_ | refine aq_glit (b := false) rfl rfl (by with_reducible rfl) ?_)); apply aq_gt; (exact rfl); (exact rfl); exact t_a) | (apply aw_ct; (exact rfl); exact t_a)) | (first | (refine ah_is ?_; (fail_if_success first | refine ah_glit (b := true) rfl rfl rfl (by with_reducible rfl) ?_ | refine ah_glit (b := false) rfl rfl rfl (by with_reducible rfl) ?_); apply ah_gf; (exact rfl); (exact rfl); (exact rfl); exact f_a) | ((refine ao_is ?_; (fail_if_success first | refine ao_glit (b := true) rfl rfl (by with_reducible rfl) ?_ | refine ao_glit (b := false) rfl rfl (by with_reducible rfl) ?_)); apply ao_gf; (exact rfl); (exact rfl); exact f_a) | ((refine aq_is ?_; (fail_if_success first | refine aq_glit (b := true) rfl rfl (by with_reducible rfl) ?_ | refine aq_glit (b := false) rfl rfl (by with_reducible rfl) ?_)); apply aq_gf; (exact rfl); (exact rfl); exact f_a) | (apply aw_cf; (exact rfl); exact f_a)) | refine at_normal ?_ | refine at_exit ?_ | refine at_ret ?_ | refine ib_normal ?_ | refine ib_exit ?_ | refine ib_other ?_ | refine ib_ret ?_ | refine lq_exit ?_ | refine lq_ret ?_ | refine ci_ret ?_ | refine ci_exit ?_ | refine r1_ret rfl ?_ | refine r1_normal rfl ?_ | refine r2_ret rfl rfl ?_ | refine r2_normal rfl rfl ?_ | refine r3_ret rfl rfl rfl ?_ | refine r3_normal rfl rfl rfl ?_ | refine ng_normal ?_ | refine ng_exit ?_ | refine ng_ret ?_ | (apply rt_ret; (exact rfl); (exact rfl); (exact rfl); exact has_a; exact has_a; (exact rfl); (exact rfl)) | (apply rc1_ret; (exact rfl); exact has_a; (exact rfl)) | (apply rc2_ret; (exact rfl); exact has_a; (exact rfl); (exact rfl)) | (refine ao_is ?_; (fail_if_success first | refine ao_glit (b := true) rfl rfl (by with_reducible rfl) ?_ | refine ao_glit (b := false) rfl rfl (by with_reducible rfl) ?_); refine ao_gbool rfl rfl (fun _ => ?_) (fun _ => ?_)) | (refine aq_is ?_; (fail_if_success first | refine aq_glit (b := true) rfl rfl (by with_reducible rfl) ?_ | refine aq_glit (b := false) rfl rfl (by with_reducible rfl) ?_); refine aq_gbool rfl rfl (fun _ => ?_) (fun _ => ?_)) | (refine aw_is ?_; refine aw_cond rfl (fun _ => ?_) (fun _ => ?_)))
  all_goals first | exact ci_normal ⟨_, _, _, by assumption, rfl, rfl⟩ (by repeat (first | exact sub_nil | refine sub_cons rfl ?_)) hsub_a | skip
  rintro t H ⟨gx, v, l, hrow, rfl, rfl⟩
  repeat' (first | refine aw_seq ?_ | refine zz ?_ | refine zon fun _ => ?_ | refine zoa fun vr lr hr => ?_ | refine zoS (fun _ => ?_) (fun _ => ?_) | refine zqS (fun _ => ?_) (fun _ => ?_) | refine zwS (fun _ => ?_) (fun _ => ?_))
  refine ⟨l ++ ((gc, .cells #[v] 30 (0, 0)) :: R), _, hsub_a, List.perm_middle, es ++ [(⟨0, (.slice xa o.rs.length xc, verO o (es.length + 1)), 0, .slice none 0 0, []⟩ : PE)], (gc, .cells #[v] 30 (0, 0)) :: l, rfl, rfl, ⟨fun e he => ?_, _, l, rfl, evs_snoc (o := verO o (es.length + 1)) hrow⟩, ?_, by rw [List.length_append, List.length_singleton]; omega⟩
  · rcases List.mem_append.1 he with he | he
    · exact hok e he
    · rw [List.mem_singleton.1 he]
      exact ⟨ho, hwo, .inl rfl, rfl, rfl, rfl⟩
  · unfold wrs
    rw [List.map_append]
    rfl
set_option maxHeartbeats 64000000 in
theorem rdel9_ok {m : Nat} {w0 : World} {gc : Nat} {es : List PE} {l : Hp} (h : RSt w0 es gc l) (hwl : WfL (wrs es)) (hl : es.length ≤ 1000) (k : Kt) (hk : k.1.length ≤ 1000 ∧ k.2.1.length ≤ 1000 ∧ k.2.2.length ≤ 1000) (R : Hp) :
    CallsH Try.prog ⟨w0.heap.size, w0, m⟩ 10 [.pointer (some ⟨gc, 0, none⟩), K3 k] (l ++ R) (Wrote w0 es.length (delL (wrs es) k) gc R) := by
  have hkd : ∀ e ∈ es, e.kind = 0 ∨ e.kind = 1 := fun e he => (h.ok e he).kind
  have hfs := find_st hwl hkd k
  have hwf : ∀ e ∈ es, wfS e.p.2 := fun e he => (h.ok e he).wf
  obtain ⟨hok, v, lv, rfl, hlv⟩ := h
  rw [List.cons_append]
  obtain ⟨av, cv, rfl⟩ := hlv.len
  have hfl := cellsE_flat hok
  have hln : (wrs es).length = es.length := List.length_map _
  have hrt := fun w' => Lab.rkey_ok k.1 k.2.1 k.2.2 (by omega) (by omega) (by omega) w'
  have hgt := fun w' (h : StAt w' gc (.slice av es.length cv) es) => rget9_ok gc _ es k hwf (by omega) w' h
  have hres : ∀ p ∈ sortP (lastP es es.length), ResAt w0 p.1 p.2.rs := fun p hp => by
    obtain ⟨e, he, rfl⟩ := lastP_mem (sort_mem hp)
    exact (hok e he).res
  refine callsH2 (args := [.pointer (some ⟨gc, 0, none⟩), K3 k]) Try.func10 rfl rfl rfl rfl ?_
  generalize sortP (lastP es es.length) = ps at hfs hgt hres
  have same : ∀ er : Int, Wrote w0 es.length (0, er, wrs es) gc R (.tuple #[I 0, I er]) ((gc, .cells #[.slice av es.length cv] 30 (0, 0)) :: (lv ++ R)) := fun er => ⟨es, _, rfl, by rw [← List.cons_append], ⟨hok, _, lv, rfl, hlv⟩, rfl, by omega⟩
  cases hr : keyB k.1 k.2.1 k.2.2
  · rw [hr] at hrt
    rw [show delL (wrs es) k = (0, 1, wrs es) by unfold delL keyR; rw [if_pos hr]]
    repeat' (first | refine aw_seq ?_ | refine zz ?_ | refine zon fun _ => ?_ | refine zoa fun vr lr hr => ?_ | ((first | apply ao_call | apply aq_call); exact wants_a; (first | exact oc_func rfl | exact oc_clos rfl rfl); (exact rfl); (first | exact fun w hw => hrt w)) | refine zoS (fun _ => ?_) (fun _ => ?_) | refine zqS (fun _ => ?_) (fun _ => ?_) | refine zwS (fun _ => ?_) (fun _ => ?_))
    exact ⟨_, _, List.Sublist.cons _ (List.Sublist.refl _), List.Perm.refl _, same 1⟩
  rw [hr] at hrt
  obtain ⟨q, ya, yc, b, hgv, hb⟩ : ∃ (q : Ob) (ya : Option Addr) (yc : Nat) (b : Bool), Chm.getV (findK ps k) = .tuple #[OV q (.slice ya q.rs.length yc), .bool b] ∧ b = (getO (osL (wrs es)) k).isSome := by
    rw [hfs]
    cases hfk : findK ps k with
    | none => exact ⟨zO, none, 0, false, rfl, rfl⟩
    | some p =>
      obtain ⟨ya, yc, hy⟩ := (hres p (List.mem_of_find?_eq_some hfk)).len
      obtain ⟨y, q⟩ := p
      simp only at hy
      subst hy
      exact ⟨q, ya, yc, true, rfl, rfl⟩
  rw [hgv] at hgt
  repeat' (first | refine aw_cutI_at (id := 7) (fun t H => delL (wrs es) k = ((es.length : Int) + 1, 0, wrs es ++ [(true, graveO k (es.length + 1))]) ∧ ∃ gx, t = [(0, .pointer (some ⟨gc, 0, none⟩)), (3, .pointer (some ⟨gx, 0, none⟩))] ∧ H = (gx, .cells #[S k.1, S k.2.1, S k.2.2] 35 (0, 0)) :: (gc, .cells #[.slice av es.length cv] 30 (0, 0)) :: (lv ++ R)) ?_ ?_ | refine aw_cutI_at2 (id := 7) (fun t H => delL (wrs es) k = ((es.length : Int) + 1, 0, wrs es ++ [(true, graveO k (es.length + 1))]) ∧ ∃ gx, t = [(0, .pointer (some ⟨gc, 0, none⟩)), (3, .pointer (some ⟨gx, 0, none⟩))] ∧ H = (gx, .cells #[S k.1, S k.2.1, S k.2.2] 35 (0, 0)) :: (gc, .cells #[.slice av es.length cv] 30 (0, 0)) :: (lv ++ R)) ?_ ?_ | refine aw_seq ?_ | ((first | apply ao_val | apply aq_val); exact wants_a; (first | exact ov_nilcheck rfl | exact ov_a); (exact rfl)) | refine zy ?_ | refine zon fun _ => ?_ | refine zoa fun vr lr hr => ?_ | ((first | apply ao_call | apply aq_call); exact wants_a; (first | exact oc_func rfl | exact oc_clos rfl rfl); (exact rfl); (first | exact fun w hw => hrt w | exact fun w hw => hgt w (stAt_of hw has_a hlv cut_a hok))))
  · cases b
    · rw [show delL (wrs es) k = (0, 4, wrs es) by unfold delL keyR; rw [if_neg (by rw [hr]; decide), if_pos hb.symm]]
      repeat' (first | refine aw_seq ?_ | refine zz ?_ | refine zon fun _ => ?_ | refine zoa fun vr lr hr => ?_ | refine zoS (fun _ => ?_) (fun _ => ?_) | refine zqS (fun _ => ?_) (fun _ => ?_) | refine zwS (fun _ => ?_) (fun _ => ?_))
      exact ⟨_, _, hsub_a, List.Perm.refl _, same 4⟩
    · repeat' (first | refine aw_seq ?_ | ((first | apply ao_val | apply aq_val); exact wants_a; (first | exact ov_nilcheck rfl | exact ov_a); (exact rfl)) | refine zy ?_ | refine zon fun _ => ?_ | refine zoa fun vr lr hr => ?_ | refine zoS (fun _ => ?_) (fun _ => ?_) | refine zqS (fun _ => ?_) (fun _ => ?_) | refine zwS (fun _ => ?_) (fun _ => ?_))
      exact ci_normal ⟨by unfold delL keyR; rw [if_neg (by rw [hr]; decide), if_neg (fun h => by rw [← hb] at h; cases h), hln], _, rfl, rfl⟩ (by repeat (first | exact sub_nil | refine sub_cons rfl ?_)) hsub_a
  rintro t H ⟨hput, gx, rfl, rfl⟩
  rw [hput]
  repeat' (first | (apply ao_nilh; exact hsub_a) | apply ao_nil | apply aq_nil | apply ah_end | ((first | apply ao_val | apply aq_val | (apply ah_take; (exact rfl))); exact wants_a; (first | exact ov_nilcheck rfl | exact ov_a); (exact rfl)) | ((first | apply ao_skip | apply aq_skip | (apply ah_skip; (exact rfl))); exact nots_a; (exact rfl)) | (refine ao_is ?_; first | (apply ao_new; exact wants_a; exact on_a; (exact rfl); intro _) | (apply ao_store; exact wants_a; exact ow_a; exact upd_a) | (apply ao_valw; exact wants_a; exact ox_a; (exact rfl); exact upd_a) | (apply ao_skip0; exact nots_a) | (apply ao_append; exact wants_a; (exact rfl); assumption; (exact rfl); exact cut_a; exact has_a; (exact rfl); (exact rfl); omega; omega; omega; (exact rfl); intro vr lr hr)) | (apply ao_append_b; exact wants_a; exact rfl; exact RowB.lit0; exact rfl; exact hlv; exact cut_a; exact cut_a; exact hfl; omega; omega; exact rfl; intro vr lr hr) | (apply ah_one; (exact rfl)) | (apply ah_two; (exact rfl); (exact rfl)) | (apply ah_three; (exact rfl); (exact rfl); (exact rfl)) | (refine aw_is ?_; first | refine aw_cutI_at (id := 9) (fun t H => ∃ v l, RowB 50 11 v l (0 + es.length + 1) ([] ++ es.flatMap cellsE ++ [I 1, S k.1, S k.2.1, S k.2.2, I (es.length + 1), S [], .bool false, .bool false, .slice none 0 0, I 0, .slice none 0 0]) ∧ t = [(9, I (es.length + 1))] ∧ H = l ++ ((gc, .cells #[v] 30 (0, 0)) :: R)) ?_ ?_ | refine aw_cutI_at2 (id := 9) (fun t H => ∃ v l, RowB 50 11 v l (0 + es.length + 1) ([] ++ es.flatMap cellsE ++ [I 1, S k.1, S k.2.1, S k.2.2, I (es.length + 1), S [], .bool false, .bool false, .slice none 0 0, I 0, .slice none 0 0]) ∧ t = [(9, I (es.length + 1))] ∧ H = l ++ ((gc, .cells #[v] 30 (0, 0)) :: R)) ?_ ?_ | (apply aw_held (id := 8) (pl := (.t 0 (.t 2 (.t 3 (.t 4 (.t 7 (.t 8 (.t 9 (.t 10 (.v 1 (.w 5 (.w 6 (.o 11 (.o 12 (.t 13 (.t 14 (.o 15 .e))))) 11 (.o 6 (.o 12 (.t 13 (.t 14 (.o 15 .e)))))) 11 (.o 5 (.o 6 (.o 12 (.t 13 (.t 14 (.o 15 .e))))))) 5 (.w 1 (.w 6 (.o 11 (.o 12 (.t 13 (.t 14 (.o 15 .e))))) 11 (.o 6 (.o 12 (.t 13 (.t 14 (.o 15 .e)))))) 11 (.o 1 (.o 6 (.o 12 (.t 13 (.t 14 (.o 15 .e))))))) 11 (.w 1 (.o 5 (.o 6 (.o 12 (.t 13 (.t 14 (.o 15 .e)))))) 5 (.o 1 (.o 6 (.o 12 (.t 13 (.t 14 (.o 15 .e))))))))))))))))); (kernel_rfl); (kernel_rfl); (kernel_rfl); (solve | (apply hs_keep; apply hs_skip; exact List.Sublist.refl _))) | refine aw_seq ?_ | refine aw_block ?_ | refine aw_region ?_ | refine aw_skip ?_ | refine aw_exit ?_ | refine aw_ret ?_ | refine aw_label ?_ | refine aw_scope ?_ | refine aw_cond_t rfl (by with_reducible rfl) ?_ | refine aw_cond_f rfl (by with_reducible rfl) ?_ | refine aw_draw (by kernel_rfl) (by kernel_rfl) ?_) | (first | (refine ah_is ?_; (fail_if_success first | refine ah_glit (b := true) rfl rfl rfl (by with_reducible rfl) ?_ | refine ah_glit (b := false) rfl rfl rfl (by with_reducible rfl) ?_); apply ah_gt; (exact rfl); (exact rfl); (exact rfl); exact t_a) | ((refine ao_is ?_; (fail_if_success first | refine ao_glit (b := true) rfl rfl (by with_reducible rfl) ?_ | refine ao_glit (b := false) rfl rfl (by with_reducible rfl) ?_)); apply ao_gt; (exact rfl); (exact rfl); exact t_a) | ((refine aq_is ?_; (fail_if_success first | refine aq_glit (b := true) rfl rfl (by with_reducible rfl) ?_ | refine aq_glit (b := false) rfl rfl (by with_reducible rfl) ?_)); apply aq_gt; (exact rfl); (exact rfl); exact t_a) | (apply aw_ct; (exact rfl); exact t_a)) | (first | (refine ah_is ?_; (fail_if_success first | refine ah_glit (b := true) rfl rfl rfl (by with_reducible rfl) ?_ | refine ah_glit (b := false) rfl rfl rfl (by with_reducible rfl) ?_); apply ah_gf; (exact rfl); (exact rfl); (exact rfl); exact f_a) | ((refine ao_is ?_; (fail_if_success first | refine ao_glit (b := true) rfl rfl (by with_reducible rfl) ?_ | refine ao_glit (b := false) rfl rfl (by with_reducible rfl) ?_)); apply ao_gf; (exact rfl); (exact rfl); exact f_a) | ((refine aq_is ?_; (fail_if_success first | refine aq_glit (b := true) rfl rfl (by with_reducible rfl) ?_ | refine aq_glit (b := false) rfl rfl (by with_reducible rfl) ?_)); apply aq_gf; (exact rfl); (exact rfl); exact f_a) | (apply aw_cf; (exact rfl); exact f_a)) | refine at_normal ?_ | refine at_exit ?_ | refine at_ret ?_ | refine ib_normal ?_ | refine ib_exit ?_ | refine ib_other ?_ | refine ib_ret ?_ | refine lq_exit ?_ | refine lq_ret ?_ | refine ci_ret ?_ | refine ci_exit ?_ | refine r1_ret rfl ?_ | refine r1_normal rfl ?_ | refine r2_ret rfl rfl ?_ | refine r2_normal rfl rfl ?_ | refine r3_ret rfl rfl rfl ?_ | refine r3_normal rfl rfl rfl ?_ | refine ng_normal ?_ | refine ng_exit ?_ | refine ng_ret ?_ | (apply rt_ret; (exact rfl); (exact rfl); (exact rfl); exact has_a; exact has_a; (exact rfl); (exact rfl)) | (apply rc1_ret; (exact rfl); exact has_a; (exact rfl)) | (apply rc2_ret; (exact rfl); exact has_a; (exact rfl); (exact rfl)) | (refine ao_is ?_; (fail_if_success first | refine ao_glit (b := true) rfl rfl (by with_reducible rfl) ?_ | refine ao_glit (b := false) rfl rfl (by with_reducible rfl) ?_); refine ao_gbool rfl rfl (fun _ => ?_) (fun _ => ?_)) | (refine aq_is ?_; (fail_if_success first | refine aq_glit (b := true) rfl rfl (by with_reducible rfl) ?_ | refine aq_glit (b := false) rfl rfl (by with_reducible rfl) ?_); refine aq_gbool rfl rfl (fun _ => ?_) (fun _ => ?_)) | (refine aw_is ?_; refine aw_cond rfl (fun _ => ?_) (fun _ => ?_)))
  all_goals try (obtain ⟨xv, yv, hxv⟩ := hr.len; subst hxv)
  repeat' (first | (apply ao_nilh; exact hsub_a) | apply ao_nil | apply aq_nil | apply ah_end | ((first | apply ao_val | apply aq_val | (apply ah_take; (exact rfl))); exact wants_a; (first | exact ov_nilcheck rfl | exact ov_a); (exact rfl)) | ((first | apply ao_skip | apply aq_skip | (apply ah_skip; (exact rfl))); exact nots_a; (exact rfl)) | (refine ao_is ?_; first | (apply ao_new; exact wants_a; exact on_a; (exact rfl); intro _) | (apply ao_store; exact wants_a; exact ow_a; exact upd_a) | (apply ao_valw; exact wants_a; exact ox_a; (exact rfl); exact upd_a) | (apply ao_skip0; exact nots_a) | (apply ao_append; exact wants_a; (exact rfl); assumption; (exact rfl); exact cut_a; exact has_a; (exact rfl); (exact rfl); omega; omega; omega; (exact rfl); intro vr lr hr)) | (apply ah_one; (exact rfl)) | (apply ah_two; (exact rfl); (exact rfl)) | (apply ah_three; (exact rfl); (exact rfl); (exact rfl)) | (refine aw_is ?_; first | (apply aw_held (id := 8) (pl := (.t 0 (.t 2 (.t 3 (.t 4 (.t 7 (.t 8 (.t 9 (.t 10 (.v 1 (.w 5 (.w 6 (.o 11 (.o 12 (.t 13 (.t 14 (.o 15 .e))))) 11 (.o 6 (.o 12 (.t 13 (.t 14 (.o 15 .e)))))) 11 (.o 5 (.o 6 (.o 12 (.t 13 (.t 14 (.o 15 .e))))))) 5 (.w 1 (.w 6 (.o 11 (.o 12 (.t 13 (.t 14 (.o 15 .e))))) 11 (.o 6 (.o 12 (.t 13 (.t 14 (.o 15 .e)))))) 11 (.o 1 (.o 6 (.o 12 (.t 13 (.t 14 (.o 15 .e))))))) 11 (.w 1 (.o 5 (.o 6 (.o 12 (.t 13 (.t 14 (.o 15 .e)))))) 5 (.o 1 (.o 6 (.o 12 (.t 13 (.t 14 (.o 15 .e))))))))))))))))); (kernel_rfl); (kernel_rfl); (kernel_rfl); (solve | (apply hs_keep; apply hs_skip; exact List.Sublist.refl _))) | refine aw_seq ?_ | refine aw_block ?_ | refine aw_region ?_ | refine aw_skip ?_ | refine aw_exit ?_ | refine aw_ret ?_ | refine aw_label ?_ | refine aw_scope ?_ | refine aw_cond_t rfl (by with_reducible rfl) ?_ | refine aw_cond_f rfl (by with_reducible rfl) ?_ | refine aw_draw (by kernel_rfl) (by kernel_rfl) ?_) | (first | (refine ah_is ?_; (fail_if_success first | refine ah_glit (b := true) rfl rfl rfl (by with_reducible rfl) ?_ | refine ah_glit (b := false) rfl rfl rfl (by with_reducible rfl) ?_); apply ah_gt; (exact rfl); (exact rfl); (exact rfl); exact t_a) | ((refine ao_is ?_; (fail_if_success first | refine ao_glit (b := true) rfl rfl (by with_reducible rfl) ?_ | refine ao_glit (b := false) rfl rfl (by with_reducible rfl) ?_)); apply ao_gt; (exact rfl); (exact rfl); exact t_a) | ((refine aq_is ?_; (fail_if_success first | refine aq_glit (b := true) rfl rfl (by with_reducible rfl) ?_ | refine aq_glit (b := false) rfl rfl (by with_reducible rfl) ?_)); apply aq_gt; (exact rfl); (exact rfl); exact t_a) | (apply aw_ct; (exact rfl); exact t_a)) | (first | (refine ah_is ?_; (fail_if_success first | refine ah_glit (b := true) rfl rfl rfl (by with_reducible rfl) ?_ | refine ah_glit (b := false) rfl rfl rfl (by with_reducible rfl) ?_); apply ah_gf; (exact rfl); (exact rfl); (exact rfl); exact f_a) | ((refine ao_is ?_; (fail_if_success first | refine ao_glit (b := true) rfl rfl (by with_reducible rfl) ?_ | refine ao_glit (b := false) rfl rfl (by with_reducible rfl) ?_)); apply ao_gf; (exact rfl); (exact rfl); exact f_a) | ((refine aq_is ?_; (fail_if_success first | refine aq_glit (b := true) rfl rfl (by with_reducible rfl) ?_ | refine aq_glit (b := false) rfl rfl (by with_reducible rfl) ?_)); apply aq_gf; (exact rfl); (exact rfl); exact f_a) | (apply aw_cf; (exact rfl); exact f_a)) | refine at_normal ?_ | refine at_exit ?_ | refine at_ret ?_ | refine ib_normal ?_ | refine ib_exit ?_ | refine ib_other ?_ | refine ib_ret ?_ | refine lq_exit ?_ | refine lq_ret ?_ | refine ci_ret ?_ | refine ci_exit ?_ | refine r1_ret rfl ?_ | refine r1_normal rfl ?_ | refine r2_ret rfl rfl ?_ | refine r2_normal rfl rfl ?_ | refine r3_ret rfl rfl rfl ?_ | refine r3_normal rfl rfl rfl ?_ | refine ng_normal ?_ | refine ng_exit ?_ | refine ng_ret ?_ | (apply rt_ret; (exact rfl); (exact rfl); (exact rfl); exact has_a; exact has_a; (exact rfl); (exact rfl)) | (apply rc1_ret; (exact rfl); exact has_a; (exact rfl)) | (apply rc2_ret; (exact rfl); exact has_a; (exact rfl); (exact rfl)) | (refine ao_is ?_; (fail_if_success first | refine ao_glit (b := true) rfl rfl (by with_reducible rfl) ?_ | refine ao_glit (b := false) rfl rfl (by with_reducible rfl) ?_); refine ao_gbool rfl rfl (fun _ => ?_) (fun _ => ?_)) | (refine aq_is ?_; (fail_if_success first | refine aq_glit (b := true) rfl rfl (by with_reducible rfl) ?_ | refine aq_glit (b := false) rfl rfl (by with_reducible rfl) ?_); refine aq_gbool rfl rfl (fun _ => ?_) (fun _ => ?_)) | (refine aw_is ?_; refine aw_cond rfl (fun _ => ?_) (fun _ => ?_)))
  all_goals first | exact ci_normal ⟨_, _, by assumption, rfl, rfl⟩ (by repeat (first | exact sub_nil | refine sub_cons rfl ?_)) hsub_a | skip
  rintro t H ⟨v, l, hrow, rfl, rfl⟩
  repeat' (first | refine aw_seq ?_ | refine zz ?_ | refine zon fun _ => ?_ | refine zoa fun vr lr hr => ?_ | refine zoS (fun _ => ?_) (fun _ => ?_) | refine zqS (fun _ => ?_) (fun _ => ?_) | refine zwS (fun _ => ?_) (fun _ => ?_))
  refine ⟨l ++ ((gc, .cells #[v] 30 (0, 0)) :: R), _, hsub_a, List.perm_middle, es ++ [(⟨1, (.slice none 0 0, graveO k (es.length + 1)), 0, .slice none 0 0, []⟩ : PE)], (gc, .cells #[v] 30 (0, 0)) :: l, rfl, rfl, ⟨fun e he => ?_, _, l, rfl, evs_snoc (o := graveO k (es.length + 1)) hrow⟩, ?_, by rw [List.length_append, List.length_singleton]; omega⟩
  · rcases List.mem_append.1 he with he | he
    · exact hok e he
    · rw [List.mem_singleton.1 he]
      exact ⟨OldRow.nil, ⟨hk.1, hk.2.1, hk.2.2, by simp [graveO], by simp [graveO, wfR]⟩, .inr rfl, rfl, rfl, rfl⟩
  · unfold wrs
    rw [List.map_append]
    rfl
end Stm
end Go.Proofs.Ytbllkmhkpapgeaa
/- Std: The document's answer for layer 9: Snapshot, and whether two logs are one; conditions: names of at most 1,000 bytes, at most 1,000 writes. -/
namespace Go.Proofs.Ytbllkmhkpapgeaa
namespace Stm
open Go Go.RowKit Sx Lab Vec Ojt Evt Chm
attribute [local irreducible] Go.Calls

set_option maxHeartbeats 32000000 in
theorem rsnap9_ok (gc : Nat) (v : Value) (es : List PE) (hwf : ∀ e ∈ es, wfS e.p.2) (hl : es.length ≤ 10000) (w : World) (hc0 : StAt w gc v es) :
    Calls Try.prog 17 #[.pointer (some ⟨gc, 0, none⟩)] w fun e w' => ∃ r, e = .returned (EV 2 (.slice none 0 0, zO) es.length r) ∧ NewRow 38 8 w w' r (sortP (lastP es es.length)).length ((sortP (lastP es es.length)).flatMap cellsO) := by
  have hob := fun w' (hb : Below w.heap.size w w') => robj9_ok gc v es hwf hl w' (hc0.below hb)
  obtain ⟨hgc, q0, hv⟩ := hc0
  obtain ⟨a, c, rfl⟩ := hv.1.len
  refine callsC1 (rt := 50) (args := [.pointer (some ⟨gc, 0, none⟩)]) Try.func17 rfl rfl rfl rfl ?_
  generalize sortP (lastP es es.length) = ps at hob ⊢
  repeat' (first | (apply ao_nilh; exact hsub_a) | apply ao_nil | apply aq_nil | apply ah_end | ((first | apply ao_val | apply aq_val | (apply ah_take; (exact rfl))); exact wants_a; (first | exact ov_nilcheck rfl | exact ov_a); (exact rfl)) | ((first | apply ao_skip | apply aq_skip | (apply ah_skip; (exact rfl))); exact nots_a; (exact rfl)) | (refine ao_is ?_; first | (apply ao_new; exact wants_a; exact on_a; (exact rfl); intro _) | (apply ao_store; exact wants_a; exact ow_a; exact upd_a) | (apply ao_valw; exact wants_a; exact ox_a; (exact rfl); exact upd_a) | (apply ao_skip0; exact nots_a) | (apply ao_append; exact wants_a; (exact rfl); assumption; (exact rfl); exact cut_a; exact has_a; (exact rfl); (exact rfl); omega; omega; omega; (exact rfl); intro vr lr hr)) | (apply ao_callr; exact wants_a; (exact oc_func rfl); (exact rfl); (first | exact fun w hw => hob w hw.below); intro vr lr hr) | (apply ah_one; (exact rfl)) | (apply ah_two; (exact rfl); (exact rfl)) | (apply ah_three; (exact rfl); (exact rfl); (exact rfl)) | (refine aw_is ?_; first | (apply aw_held (id := 1) (pl := (.t 0 (.t 1 (.t 2 (.t 3 (.t 5 (.w 4 (.o 6 (.t 7 (.o 8 .e))) 6 (.o 4 (.t 7 (.o 8 .e)))))))))); (kernel_rfl); (kernel_rfl); (kernel_rfl); (solve | (apply hs_skip; exact List.Sublist.refl _))) | refine aw_seq ?_ | refine aw_block ?_ | refine aw_region ?_ | refine aw_skip ?_ | refine aw_exit ?_ | refine aw_ret ?_ | refine aw_label ?_ | refine aw_scope ?_ | refine aw_cond_t rfl (by with_reducible rfl) ?_ | refine aw_cond_f rfl (by with_reducible rfl) ?_ | refine aw_draw (by kernel_rfl) (by kernel_rfl) ?_) | (first | (refine ah_is ?_; (fail_if_success first | refine ah_glit (b := true) rfl rfl rfl (by with_reducible rfl) ?_ | refine ah_glit (b := false) rfl rfl rfl (by with_reducible rfl) ?_); apply ah_gt; (exact rfl); (exact rfl); (exact rfl); exact t_a) | ((refine ao_is ?_; (fail_if_success first | refine ao_glit (b := true) rfl rfl (by with_reducible rfl) ?_ | refine ao_glit (b := false) rfl rfl (by with_reducible rfl) ?_)); apply ao_gt; (exact rfl); (exact rfl); exact t_a) | ((refine aq_is ?_; (fail_if_success first | refine aq_glit (b := true) rfl rfl (by with_reducible rfl) ?_ | refine aq_glit (b := false) rfl rfl (by with_reducible rfl) ?_)); apply aq_gt; (exact rfl); (exact rfl); exact t_a) | (apply aw_ct; (exact rfl); exact t_a)) | (first | (refine ah_is ?_; (fail_if_success first | refine ah_glit (b := true) rfl rfl rfl (by with_reducible rfl) ?_ | refine ah_glit (b := false) rfl rfl rfl (by with_reducible rfl) ?_); apply ah_gf; (exact rfl); (exact rfl); (exact rfl); exact f_a) | ((refine ao_is ?_; (fail_if_success first | refine ao_glit (b := true) rfl rfl (by with_reducible rfl) ?_ | refine ao_glit (b := false) rfl rfl (by with_reducible rfl) ?_)); apply ao_gf; (exact rfl); (exact rfl); exact f_a) | ((refine aq_is ?_; (fail_if_success first | refine aq_glit (b := true) rfl rfl (by with_reducible rfl) ?_ | refine aq_glit (b := false) rfl rfl (by with_reducible rfl) ?_)); apply aq_gf; (exact rfl); (exact rfl); exact f_a) | (apply aw_cf; (exact rfl); exact f_a)) | refine at_normal ?_ | refine at_exit ?_ | refine at_ret ?_ | refine ib_normal ?_ | refine ib_exit ?_ | refine ib_other ?_ | refine ib_ret ?_ | refine lq_exit ?_ | refine lq_ret ?_ | refine ci_ret ?_ | refine ci_exit ?_ | refine r1_ret rfl ?_ | refine r1_normal rfl ?_ | refine r2_ret rfl rfl ?_ | refine r2_normal rfl rfl ?_ | refine r3_ret rfl rfl rfl ?_ | refine r3_normal rfl rfl rfl ?_ | refine ng_normal ?_ | refine ng_exit ?_ | refine ng_ret ?_ | (apply rt_ret; (exact rfl); (exact rfl); (exact rfl); exact has_a; exact has_a; (exact rfl); (exact rfl)) | (apply rc1_ret; (exact rfl); exact has_a; (exact rfl)) | (apply rc2_ret; (exact rfl); exact has_a; (exact rfl); (exact rfl)) | (refine ao_is ?_; (fail_if_success first | refine ao_glit (b := true) rfl rfl (by with_reducible rfl) ?_ | refine ao_glit (b := false) rfl rfl (by with_reducible rfl) ?_); refine ao_gbool rfl rfl (fun _ => ?_) (fun _ => ?_)) | (refine aq_is ?_; (fail_if_success first | refine aq_glit (b := true) rfl rfl (by with_reducible rfl) ?_ | refine aq_glit (b := false) rfl rfl (by with_reducible rfl) ?_); refine aq_gbool rfl rfl (fun _ => ?_) (fun _ => ?_)) | (refine aw_is ?_; refine aw_cond rfl (fun _ => ?_) (fun _ => ?_)))
  all_goals try (obtain ⟨xv, yv, hxv⟩ := hr.len; subst hxv)
  repeat' (first | (apply ao_nilh; exact hsub_a) | apply ao_nil | apply aq_nil | apply ah_end | ((first | apply ao_val | apply aq_val | (apply ah_take; (exact rfl))); exact wants_a; (first | exact ov_nilcheck rfl | exact ov_a); (exact rfl)) | ((first | apply ao_skip | apply aq_skip | (apply ah_skip; (exact rfl))); exact nots_a; (exact rfl)) | (refine ao_is ?_; first | (apply ao_new; exact wants_a; exact on_a; (exact rfl); intro _) | (apply ao_store; exact wants_a; exact ow_a; exact upd_a) | (apply ao_valw; exact wants_a; exact ox_a; (exact rfl); exact upd_a) | (apply ao_skip0; exact nots_a) | (apply ao_append; exact wants_a; (exact rfl); assumption; (exact rfl); exact cut_a; exact has_a; (exact rfl); (exact rfl); omega; omega; omega; (exact rfl); intro vr lr hr)) | (apply ao_callr; exact wants_a; (exact oc_func rfl); (exact rfl); (first | exact fun w hw => hob w hw.below); intro vr lr hr) | (apply ah_one; (exact rfl)) | (apply ah_two; (exact rfl); (exact rfl)) | (apply ah_three; (exact rfl); (exact rfl); (exact rfl)) | (refine aw_is ?_; first | (apply aw_held (id := 1) (pl := (.t 0 (.t 1 (.t 2 (.t 3 (.t 5 (.w 4 (.o 6 (.t 7 (.o 8 .e))) 6 (.o 4 (.t 7 (.o 8 .e)))))))))); (kernel_rfl); (kernel_rfl); (kernel_rfl); (solve | (apply hs_skip; exact List.Sublist.refl _))) | refine aw_seq ?_ | refine aw_block ?_ | refine aw_region ?_ | refine aw_skip ?_ | refine aw_exit ?_ | refine aw_ret ?_ | refine aw_label ?_ | refine aw_scope ?_ | refine aw_cond_t rfl (by with_reducible rfl) ?_ | refine aw_cond_f rfl (by with_reducible rfl) ?_ | refine aw_draw (by kernel_rfl) (by kernel_rfl) ?_) | (first | (refine ah_is ?_; (fail_if_success first | refine ah_glit (b := true) rfl rfl rfl (by with_reducible rfl) ?_ | refine ah_glit (b := false) rfl rfl rfl (by with_reducible rfl) ?_); apply ah_gt; (exact rfl); (exact rfl); (exact rfl); exact t_a) | ((refine ao_is ?_; (fail_if_success first | refine ao_glit (b := true) rfl rfl (by with_reducible rfl) ?_ | refine ao_glit (b := false) rfl rfl (by with_reducible rfl) ?_)); apply ao_gt; (exact rfl); (exact rfl); exact t_a) | ((refine aq_is ?_; (fail_if_success first | refine aq_glit (b := true) rfl rfl (by with_reducible rfl) ?_ | refine aq_glit (b := false) rfl rfl (by with_reducible rfl) ?_)); apply aq_gt; (exact rfl); (exact rfl); exact t_a) | (apply aw_ct; (exact rfl); exact t_a)) | (first | (refine ah_is ?_; (fail_if_success first | refine ah_glit (b := true) rfl rfl rfl (by with_reducible rfl) ?_ | refine ah_glit (b := false) rfl rfl rfl (by with_reducible rfl) ?_); apply ah_gf; (exact rfl); (exact rfl); (exact rfl); exact f_a) | ((refine ao_is ?_; (fail_if_success first | refine ao_glit (b := true) rfl rfl (by with_reducible rfl) ?_ | refine ao_glit (b := false) rfl rfl (by with_reducible rfl) ?_)); apply ao_gf; (exact rfl); (exact rfl); exact f_a) | ((refine aq_is ?_; (fail_if_success first | refine aq_glit (b := true) rfl rfl (by with_reducible rfl) ?_ | refine aq_glit (b := false) rfl rfl (by with_reducible rfl) ?_)); apply aq_gf; (exact rfl); (exact rfl); exact f_a) | (apply aw_cf; (exact rfl); exact f_a)) | refine at_normal ?_ | refine at_exit ?_ | refine at_ret ?_ | refine ib_normal ?_ | refine ib_exit ?_ | refine ib_other ?_ | refine ib_ret ?_ | refine lq_exit ?_ | refine lq_ret ?_ | refine ci_ret ?_ | refine ci_exit ?_ | refine r1_ret rfl ?_ | refine r1_normal rfl ?_ | refine r2_ret rfl rfl ?_ | refine r2_normal rfl rfl ?_ | refine r3_ret rfl rfl rfl ?_ | refine r3_normal rfl rfl rfl ?_ | refine ng_normal ?_ | refine ng_exit ?_ | refine ng_ret ?_ | (apply rt_ret; (exact rfl); (exact rfl); (exact rfl); exact has_a; exact has_a; (exact rfl); (exact rfl)) | (apply rc1_ret; (exact rfl); exact has_a; (exact rfl)) | (apply rc2_ret; (exact rfl); exact has_a; (exact rfl); (exact rfl)) | (refine ao_is ?_; (fail_if_success first | refine ao_glit (b := true) rfl rfl (by with_reducible rfl) ?_ | refine ao_glit (b := false) rfl rfl (by with_reducible rfl) ?_); refine ao_gbool rfl rfl (fun _ => ?_) (fun _ => ?_)) | (refine aq_is ?_; (fail_if_success first | refine aq_glit (b := true) rfl rfl (by with_reducible rfl) ?_ | refine aq_glit (b := false) rfl rfl (by with_reducible rfl) ?_); refine aq_gbool rfl rfl (fun _ => ?_) (fun _ => ?_)) | (refine aw_is ?_; refine aw_cond rfl (fun _ => ?_) (fun _ => ?_)))
  all_goals exact fun w' hw => ⟨_, rfl, hw.below, _, hr, fun b o hm => hw.at_ b o (List.mem_append_left _ hm)⟩
/-- Logs that are one are found to be so. -/
theorem one_ev {e f : PE} (h : evE e = evE f) : sameE e.kind e.p.2 e.ver e.qs f.kind f.p.2 f.ver f.qs = true := by
  have h1 : e.kind = f.kind := congrArg Ev.kind h
  have h2 : e.p.2 = f.p.2 := congrArg Ev.o h
  have h3 : e.ver = f.ver := congrArg Ev.ver h
  have h4 : obs e.qs = obs f.qs := congrArg Ev.qs h
  unfold sameE
  rw [h1, h2, h3, h4]
  simp
set_option maxHeartbeats 32000000 in
theorem rev9_ok (v u : Value) (es bs : List PE) (hone : es.map evE = bs.map evE) (hwa : ∀ e ∈ es, wfS e.p.2 ∧ wfL e.qs) (hwb : ∀ e ∈ bs, wfS e.p.2 ∧ wfL e.qs) (hl : es.length ≤ 10000) (w : World) (hv : EvsAt w v es) (hu : EvsAt w u bs) :
    Calls Try.prog 19 #[v, u] w fun e w' => e = .returned (.bool true) ∧ Below w.heap.size w w' := by
  have hlen : es.length = bs.length := by have := congrArg List.length hone; rwa [List.length_map, List.length_map] at this
  obtain ⟨a, ca, rfl, hata⟩ := OldRow.cells cellsE_len hv.1
  obtain ⟨b, cb, rfl, hatb⟩ := OldRow.cells cellsE_len hu.1
  refine calls1 (args := [.slice a es.length ca, .slice b bs.length cb]) Try.func19 rfl rfl rfl rfl ?_
  repeat' (first | refine aw_seq ?_ | refine zz ?_ | refine zon fun _ => ?_ | refine zoa fun vr lr hr => ?_ | refine zoS (fun _ => ?_) (fun _ => ?_) | refine zqS (fun _ => ?_) (fun _ => ?_) | refine zwS (fun _ => ?_) (fun _ => ?_))
  refine aw_for (t0 := [(0, .slice a es.length ca), (1, .slice b bs.length cb), (5, I (0 : Nat))]) (fun q t H => ∃ i : Nat, q = es.length - i ∧ i ≤ es.length ∧ t = [(0, .slice a es.length ca), (1, .slice b bs.length cb), (5, I i)] ∧ H = []) ⟨0, rfl, by omega, rfl, rfl⟩ (by repeat (first | exact sub_nil | refine sub_cons rfl ?_)) ?_
  rintro q t H ⟨i, rfl, hi, rfl, rfl⟩
  by_cases hlt : i < es.length
  · obtain ⟨⟨kind, ⟨x, o⟩, ver, v2, qs⟩, he⟩ := getP hlt
    obtain ⟨⟨kind2, ⟨y, p⟩, ver2, u2, qs2⟩, hf⟩ := getP (show i < bs.length by omega)
    have hma := List.mem_of_getElem? he
    have hmb := List.mem_of_getElem? hf
    have h1 : evE ⟨kind, (x, o), ver, v2, qs⟩ = evE ⟨kind2, (y, p), ver2, u2, qs2⟩ := by
      have e1 : (es.map evE)[i]? = some (evE ⟨kind, (x, o), ver, v2, qs⟩) := by rw [List.getElem?_map, he]; rfl
      have e2 : (bs.map evE)[i]? = some (evE ⟨kind2, (y, p), ver2, u2, qs2⟩) := by rw [List.getElem?_map, hf]; rfl
      rw [hone, e2] at e1
      exact (Option.some.inj e1).symm
    have hsm := fun w' (hb : Below w.heap.size w w') => Evt.rsame_ok kind (x, o) ver v2 qs kind2 (y, p) ver2 u2 qs2 (hwa _ hma).1 (hwa _ hma).2 (hwb _ hmb).1 (hwb _ hmb).2 w' ((hv.2 _ hma).1.below hb) ((hv.2 _ hma).2.below hb) ((hu.2 _ hmb).1.below hb) ((hu.2 _ hmb).2.below hb)
    rw [one_ev h1] at hsm
    obtain ⟨xa, xc, hx⟩ := (hv.2 _ hma).1.len
    obtain ⟨va, vc, hv2⟩ := (hv.2 _ hma).2.1.len
    obtain ⟨ya, yc, hy⟩ := (hu.2 _ hmb).1.len
    obtain ⟨ua, uc, hu2⟩ := (hu.2 _ hmb).2.1.len
    simp only at hx hv2 hy hu2
    subst hx hv2 hy hu2
    obtain ⟨ga, o1, rfl, hg, hc⟩ := hata i _ (i : Int) he rfl
    obtain ⟨gb, o2, rfl, hg2, hc2⟩ := hatb i _ (i : Int) hf rfl
    have cA : ∀ (j : Nat) z, [I kind, S o.k, S o.s, S o.n, I o.ver, S o.c, .bool o.tm, .bool o.bs, .slice xa o.rs.length xc, I ver, .slice va qs.length vc][j]? = some z → w.cell? ⟨ga, o1 + (i : Int).toNat * 11 + j, none⟩ = some z := hc
    have cB : ∀ (j : Nat) z, [I kind2, S p.k, S p.s, S p.n, I p.ver, S p.c, .bool p.tm, .bool p.bs, .slice ya p.rs.length yc, I ver2, .slice ua qs2.length uc][j]? = some z → w.cell? ⟨gb, o2 + (i : Int).toNat * 11 + j, none⟩ = some z := hc2
    repeat' (first | refine aw_seq ?_ | ((first | apply ao_val | apply aq_val); exact wants_a; (first | exact ov_load_oa rfl hg cA rfl | exact ov_load_oa rfl hg2 cB rfl | exact ov_a); (exact rfl)) | refine zy ?_ | refine zon fun _ => ?_ | refine zoa fun vr lr hr => ?_ | ((first | apply ao_call | apply aq_call); exact wants_a; (first | exact oc_func rfl | exact oc_clos rfl rfl); (exact rfl); (first | exact fun w hw => hsm w hw.below)) | refine zoS (fun _ => ?_) (fun _ => ?_) | refine zqS (fun _ => ?_) (fun _ => ?_) | refine zwS (fun _ => ?_) (fun _ => ?_))
    exact lq_normal' ⟨i + 1, rfl, by omega, rfl, rfl⟩ (by omega) (by repeat (first | exact sub_nil | refine sub_cons rfl ?_)) hsub_a
  · obtain rfl : i = es.length := by omega
    repeat' (first | refine aw_seq ?_ | refine zz ?_ | refine zon fun _ => ?_ | refine zoa fun vr lr hr => ?_ | refine zoS (fun _ => ?_) (fun _ => ?_) | refine zqS (fun _ => ?_) (fun _ => ?_) | refine zwS (fun _ => ?_) (fun _ => ?_))
    exact fun w' hw => ⟨rfl, hw.below⟩
end Stm
end Go.Proofs.Ytbllkmhkpapgeaa
/- Stf: Lists of writes, and which are gone through, of layer 9; conditions: none. -/
namespace Go.Proofs.Ytbllkmhkpapgeaa
namespace Stm
open Go Go.RowKit Sx Lab Vec Ojt Evt Chm
attribute [local irreducible] Go.Calls

/-- A write that comes in: is it a Delete, its object, and where that one's charge lies. -/
abbrev PW := Bool × PO
def cellsW (e : PW) : List Value := .bool e.1 :: cellsO e.2
theorem cellsW_len (e : PW) : (cellsW e).length = 9 := rfl
def WrAt (w : World) (v : Value) (ws : List PW) : Prop := OldRow w 9 v ws.length (ws.flatMap cellsW) ∧ ∀ e ∈ ws, ResAt w e.2.1 e.2.2.rs
theorem WrAt.below {w w' : World} {v : Value} {ws : List PW} (h : WrAt w v ws) (hb : Below w.heap.size w w') : WrAt w' v ws := ⟨OldRow.below h.1 hb, fun e he => (h.2 e he).below hb⟩
def fitWs (ws : List PW) : Bool := decide (ws.length ≤ 60) && ws.all fun e => fitO e.2.2
theorem fitWs_wf {ws : List PW} (h : fitWs ws = true) (hn : ∀ e ∈ ws, numR e.2.2.rs) : ws.length ≤ 60 ∧ ∀ e ∈ ws, wfS e.2.2 := by
  unfold fitWs at h
  rw [Bool.and_eq_true, decide_eq_true_eq, List.all_eq_true] at h
  refine ⟨h.1, fun e he => ?_⟩
  have hf := h.2 e he
  have hw := (fit_wf hf (hn e he)).1
  unfold fitO at hf
  obtain ⟨h1, h2, h3, h4, h5, h6⟩ := of_decide_eq_true hf
  exact ⟨by omega, by omega, by omega, by omega, hw.2.2.2.2⟩

set_option maxHeartbeats 16000000 in
theorem fits9_ok (v : Value) (ws : List PW) (w : World) (hv : WrAt w v ws) :
    Calls Try.prog 6 #[v] w fun e w' => e = .returned (.bool (fitWs ws)) ∧ Below w.heap.size w w' := by
  obtain ⟨a, cp, rfl, hat⟩ := OldRow.cells cellsW_len hv.1
  refine calls1 (args := [.slice a ws.length cp]) Try.func6 rfl rfl rfl rfl ?_
  by_cases h60 : ws.length ≤ 60
  · repeat' (first | refine aw_seq ?_ | refine zz ?_ | refine zon fun _ => ?_ | refine zoa fun vr lr hr => ?_ | refine zoS (fun _ => ?_) (fun _ => ?_) | refine zqS (fun _ => ?_) (fun _ => ?_) | refine zwS (fun _ => ?_) (fun _ => ?_))
    refine aw_for (t0 := [(0, .slice a ws.length cp), (3, I (0 : Nat))]) (fun q t H => ∃ i : Nat, q = ws.length - i ∧ i ≤ ws.length ∧ (∀ (j : Nat) (e : PW), j < i → ws[j]? = some e → fitO e.2.2 = true) ∧ t = [(0, .slice a ws.length cp), (3, I i)] ∧ H = []) ⟨0, rfl, by omega, fun j p hj => by omega, rfl, rfl⟩ (by repeat (first | exact sub_nil | refine sub_cons rfl ?_)) ?_
    rintro q t H ⟨i, rfl, hi, hall, rfl, rfl⟩
    by_cases hlt : i < ws.length
    · obtain ⟨⟨gone, ⟨x, o⟩⟩, he⟩ := getP hlt
      obtain ⟨g, o1, rfl, hg, hc⟩ := hat i _ (i : Int) he rfl
      have cA : ∀ (j : Nat) z, [S o.k, S o.s, S o.n, I o.ver, S o.c, .bool o.tm, .bool o.bs, x][j]? = some z → w.cell? ⟨g, o1 + (i : Int).toNat * 9 + 1 + j, none⟩ = some z := fun j z hj => by
        rw [show o1 + (i : Int).toNat * 9 + 1 + j = o1 + (i : Int).toNat * 9 + (j + 1) by omega]
        exact hc (j + 1) z hj
      have m1 := List.mem_of_getElem? he
      have hr := fun w' (hb : Below w.heap.size w w') => Ojt.fits_ok o x w' ((hv.2 _ m1).below hb)
      cases hq : fitO o
      · rw [show fitWs ws = false by
          unfold fitWs
          rw [show (ws.all fun e => fitO e.2.2) = false from List.all_eq_false.2 ⟨_, m1, by simp only; rw [hq]; decide⟩, Bool.and_false]]
        rw [hq] at hr
        repeat' (first | refine aw_seq ?_ | ((first | apply ao_val | apply aq_val); exact wants_a; (first | exact ov_load_oa rfl hg cA rfl | exact ov_a); (exact rfl)) | refine zy ?_ | refine zon fun _ => ?_ | refine zoa fun vr lr hr => ?_ | ((first | apply ao_call | apply aq_call); exact wants_a; (first | exact oc_func rfl | exact oc_clos rfl rfl); (exact rfl); (first | exact fun w hw => hr w hw.below)) | refine zoS (fun _ => ?_) (fun _ => ?_) | refine zqS (fun _ => ?_) (fun _ => ?_) | refine zwS (fun _ => ?_) (fun _ => ?_))
        exact fun w' hw => ⟨rfl, hw.below⟩
      · rw [hq] at hr
        repeat' (first | refine aw_seq ?_ | ((first | apply ao_val | apply aq_val); exact wants_a; (first | exact ov_load_oa rfl hg cA rfl | exact ov_a); (exact rfl)) | refine zy ?_ | refine zon fun _ => ?_ | refine zoa fun vr lr hr => ?_ | ((first | apply ao_call | apply aq_call); exact wants_a; (first | exact oc_func rfl | exact oc_clos rfl rfl); (exact rfl); (first | exact fun w hw => hr w hw.below)) | refine zoS (fun _ => ?_) (fun _ => ?_) | refine zqS (fun _ => ?_) (fun _ => ?_) | refine zwS (fun _ => ?_) (fun _ => ?_))
        exact lq_normal' ⟨i + 1, rfl, by omega, fun j z hj hz => by
          by_cases e1 : j = i
          · subst e1; rw [he] at hz; cases hz; exact hq
          · exact hall j z (by omega) hz, rfl, rfl⟩ (by omega) (by repeat (first | exact sub_nil | refine sub_cons rfl ?_)) hsub_a
    · obtain rfl : i = ws.length := by omega
      rw [show fitWs ws = true by
        unfold fitWs
        rw [decide_eq_true h60, Bool.true_and]
        exact List.all_eq_true.2 fun e he => by
          obtain ⟨j, hj⟩ := List.getElem?_of_mem he
          exact hall j e (List.getElem?_eq_some_iff.1 hj).1 hj]
      repeat' (first | refine aw_seq ?_ | refine zz ?_ | refine zon fun _ => ?_ | refine zoa fun vr lr hr => ?_ | refine zoS (fun _ => ?_) (fun _ => ?_) | refine zqS (fun _ => ?_) (fun _ => ?_) | refine zwS (fun _ => ?_) (fun _ => ?_))
      exact fun w' hw => ⟨rfl, hw.below⟩
  · rw [show fitWs ws = false by unfold fitWs; rw [decide_eq_false h60]; rfl]
    repeat' (first | refine aw_seq ?_ | refine zz ?_ | refine zon fun _ => ?_ | refine zoa fun vr lr hr => ?_ | refine zoS (fun _ => ?_) (fun _ => ?_) | refine zqS (fun _ => ?_) (fun _ => ?_) | refine zwS (fun _ => ?_) (fun _ => ?_))
    exact fun w' hw => ⟨rfl, hw.below⟩
end Stm
end Go.Proofs.Ytbllkmhkpapgeaa
