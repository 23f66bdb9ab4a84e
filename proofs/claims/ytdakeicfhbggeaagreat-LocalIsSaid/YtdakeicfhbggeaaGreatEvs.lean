/- Lists of objects, and events: what they are, which may be; conditions: none. -/
import Derived.Test.YtdakeicfhbggeaaGreatOmor
import Derived.Test.YtdakeicfhbggeaaGreatSxk
/- Evm: Lists of objects, and events: what they are, which may be; conditions: none. -/
namespace Go.Proofs.YtdakeicfhbggeaaGreat
namespace Evt
open Go Go.RowKit Sx Lab Vec Ojt
abbrev PO := Value × Ob
def cellsO (p : PO) : List Value := [S p.2.k, S p.2.s, S p.2.n, I p.2.ver, S p.2.c, .bool p.2.tm, .bool p.2.bs, p.1]
theorem cellsO_len (p : PO) : (cellsO p).length = 8 := rfl
abbrev obs (ps : List PO) : List Ob := ps.map (·.2)
def ObjsAt (w : World) (v : Value) (ps : List PO) : Prop := OldRow w 8 v ps.length (ps.flatMap cellsO) ∧ ∀ p ∈ ps, ResAt w p.1 p.2.rs
theorem ObjsAt.below {w w' : World} {v : Value} {ps : List PO} (h : ObjsAt w v ps) (hb : Below w.heap.size w w') : ObjsAt w' v ps := ⟨OldRow.below h.1 hb, fun p hp => (h.2 p hp).below hb⟩
def wfS (o : Ob) : Prop := o.k.length ≤ 1000 ∧ o.s.length ≤ 1000 ∧ o.n.length ≤ 1000 ∧ o.c.length ≤ 1000 ∧ wfR o.rs
theorem wfS.wfO {o : Ob} (h : wfS o) : wfO o := ⟨by have := h.1; omega, by have := h.2.1; omega, by have := h.2.2.1; omega, by have := h.2.2.2.1; omega, h.2.2.2.2⟩
def wfL (ps : List PO) : Prop := ps.length ≤ 100000 ∧ ∀ p ∈ ps, wfS p.2
def lessO (a b : Ob) : Bool := Op.bytesLess (joinB a.k a.s a.n) (joinB b.k b.s b.n)
theorem same_eq (a b : Ob) : sameO a b = decide (a = b) := by
  obtain ⟨k, s, n, ver, c, tm, bs, rs⟩ := a
  obtain ⟨k2, s2, n2, ver2, c2, tm2, bs2, rs2⟩ := b
  rw [Bool.eq_iff_iff]
  simp only [sameO, alikeO, Bool.and_eq_true, decide_eq_true_eq, beq_iff_eq, Ob.mk.injEq]
  constructor
  · rintro ⟨⟨h1, h2, h3, h4, h5, h6, h7⟩, h8⟩; exact ⟨h1, h2, h3, h8, h4, h5, h6, h7⟩
  · rintro ⟨h1, h2, h3, h8, h4, h5, h6, h7⟩; exact ⟨⟨h1, h2, h3, h4, h5, h6, h7⟩, h8⟩
theorem getP {α : Type} {l : List α} {i : Nat} (h : i < l.length) : ∃ a, l[i]? = some a := ⟨_, List.getElem?_eq_getElem h⟩
def relAt (os : List Ob) (ver : Int) (i : Nat) : Bool :=
  match os[i]? with
  | none => true
  | some o => rightO o && decide (o.ver ≤ ver) && (match i with
    | 0 => true
    | j + 1 => match os[j]? with
      | none => true
      | some q => lessO q o)
def relB (os : List Ob) (ver : Int) : Bool := (List.range os.length).all (relAt os ver)
theorem rel_f {os : List Ob} {ver : Int} {i : Nat} (hi : i < os.length) (h : relAt os ver i = false) : relB os ver = false := List.all_eq_false.2 ⟨i, List.mem_range.2 hi, by rw [h]; decide⟩
theorem rel_t {os : List Ob} {ver : Int} (h : ∀ j, j < os.length → relAt os ver j = true) : relB os ver = true := List.all_eq_true.2 fun j hj => h j (List.mem_range.1 hj)
theorem ob_at {ps : List PO} {i : Nat} {p : PO} (h : ps[i]? = some p) : (obs ps)[i]? = some p.2 := by rw [List.getElem?_map, h]; rfl
theorem obs_len (ps : List PO) : (obs ps).length = ps.length := List.length_map _
abbrev EV (kind : Int) (p : PO) (ver : Int) (v : Value) : Value := .agg #[I kind, S p.2.k, S p.2.s, S p.2.n, I p.2.ver, S p.2.c, .bool p.2.tm, .bool p.2.bs, p.1, I ver, v]
def rightE (kind : Int) (o : Ob) (ver : Int) (os : List Ob) : Bool :=
  if kind = 0 then rightO o else if kind = 1 then keyB o.k o.s o.n && decide (1 ≤ o.ver) else if kind = 3 then decide (0 ≤ ver)
  else if kind = 2 then relB os ver && (decide (0 ≤ ver) && decide (os.length ≤ 1000)) else false
def versE (kind : Int) (o : Ob) (ver : Int) (os : List Ob) : Int × Int := if rightE kind o ver os = true then (if kind = 0 ∨ kind = 1 then o.ver else ver, 0) else (0, 1)
def insP (x : PO) : List PO → List PO
  | [] => [x]
  | y :: r => if lessO x.2 y.2 = true then x :: y :: r else y :: insP x r
def sortP (ps : List PO) : List PO := ps.foldl (fun out x => insP x out) []
end Evt
end Go.Proofs.YtdakeicfhbggeaaGreat
/- Evn: Lists of objects, and events, in new memory; the order of objects; conditions: none. -/
namespace Go.Proofs.YtdakeicfhbggeaaGreat
namespace Evt
open Go Go.RowKit Sx Lab Vec Ojt
def KO (p : PO) (l : Hp) : Prop := RowB 87 2 p.1 l p.2.rs.length (rcells p.2.rs)
def DObjs (os : List Ob) (v : Value) (l : Hp) : Prop := ∃ ps l0 ls, obs ps = os ∧ l = l0 ++ ls ∧ RowB 61 8 v l0 ps.length (ps.flatMap cellsO) ∧ Parts KO ls ps
theorem objs_at {E : Env} {H R l0 ls : Hp} {w : World} {v : Value} {ps : List PO} (h : RepH E H w) (hr : RowB 61 8 v l0 ps.length (ps.flatMap cellsO)) (hk : Parts KO ls ps) (hc : Cut H (l0 ++ ls) R) : ObjsAt w v ps :=
  ⟨h.oldr hr hc.fst, fun p hp => by
    obtain ⟨l, R', hc2, hkt⟩ := hk.at hp
    exact h.oldr hkt (hc.snd.trans hc2)⟩
theorem objs_old {E : Env} {H R l : Hp} {w : World} {v : Value} {ps : List PO} (h : RepH E H w) (hr : RowB 61 8 v l ps.length (ps.flatMap cellsO)) (hc : Cut H l R) (ho : ∀ p ∈ ps, ResAt w p.1 p.2.rs) : ObjsAt w v ps := ⟨h.oldr hr hc, ho⟩
def insO (x : Ob) : List Ob → List Ob
  | [] => [x]
  | y :: r => if lessO x y = true then x :: y :: r else y :: insO x r
def sortO (os : List Ob) : List Ob := os.foldl (fun out x => insO x out) []
theorem obs_ins (x : PO) : ∀ (l : List PO), obs (insP x l) = insO x.2 (obs l)
  | [] => rfl
  | y :: r => by
    show obs (insP x (y :: r)) = insO x.2 (y.2 :: obs r)
    unfold insP insO
    split
    · rfl
    · show y.2 :: obs (insP x r) = _
      rw [obs_ins x r]
theorem obs_sort (ps : List PO) : obs (sortP ps) = sortO (obs ps) := by
  unfold sortP sortO
  have key : ∀ (ps outs : List PO), obs (ps.foldl (fun out x => insP x out) outs) = (obs ps).foldl (fun out x => insO x out) (obs outs) := fun ps => by
    induction ps with
    | nil => intro outs; rfl
    | cons p ps ih =>
      intro outs
      show obs (ps.foldl _ (insP p outs)) = (obs ps).foldl _ (insO p.2 (obs outs))
      rw [ih, obs_ins]
  exact key ps []
theorem ins_mem {x p : PO} : ∀ {l : List PO}, p ∈ insP x l → p = x ∨ p ∈ l
  | [], h => .inl (List.mem_singleton.1 h)
  | y :: r, h => by
    unfold insP at h
    split at h
    · rcases List.mem_cons.1 h with h | h
      · exact .inl h
      · exact .inr h
    · rcases List.mem_cons.1 h with h | h
      · exact .inr (h ▸ List.mem_cons_self)
      · rcases ins_mem h with h | h
        · exact .inl h
        · exact .inr (List.mem_cons_of_mem y h)
theorem sort_mem {p : PO} {ps : List PO} (h : p ∈ sortP ps) : p ∈ ps := by
  have key : ∀ (qs outs : List PO), (∀ x ∈ outs, x ∈ ps) → (∀ x ∈ qs, x ∈ ps) → ∀ x ∈ qs.foldl (fun out x => insP x out) outs, x ∈ ps := fun qs => by
    induction qs with
    | nil => exact fun outs h _ => h
    | cons q qs ih => exact fun outs h g => ih _ (fun x hx => (ins_mem hx).elim (fun e => e ▸ g q List.mem_cons_self) (h x)) fun x hx => g x (List.mem_cons_of_mem q hx)
  exact key ps [] (fun x hx => by cases hx) (fun x hx => hx) p h
theorem ins_len (x : PO) : ∀ (l : List PO), (insP x l).length = l.length + 1
  | [] => rfl
  | y :: r => by
    unfold insP
    split
    · rfl
    · rw [List.length_cons, ins_len x r, List.length_cons]
theorem sort_len (ps : List PO) : (sortP ps).length = ps.length := by
  have key : ∀ (qs outs : List PO), (qs.foldl (fun out x => insP x out) outs).length = outs.length + qs.length := fun qs => by
    induction qs with
    | nil => intro outs; rfl
    | cons q qs ih => intro outs; rw [List.foldl_cons, ih, ins_len, List.length_cons]; omega
  have := key ps []
  simpa [sortP] using this
end Evt
end Go.Proofs.YtdakeicfhbggeaaGreat
/- Evr: Contracts of the document's answer for layers 5 and 7: lists of objects; Right, Version, Same; conditions: names of at most 1,000 bytes, at most 100,000 objects and resources. -/
namespace Go.Proofs.YtdakeicfhbggeaaGreat
namespace Evt
open Go Go.RowKit Sx Lab Vec Ojt
attribute [local irreducible] Go.Calls
theorem robjs_len {ps qs : List PO} (h : obs ps = obs qs) : ps.length = qs.length := by
  have := congrArg List.length h
  rw [List.length_map, List.length_map] at this
  exact this
end Evt
end Go.Proofs.YtdakeicfhbggeaaGreat
/- Evs: Contracts of the document's answer for layer 7: Version, Same, Sorted; conditions: names of at most 1,000 bytes, at most 100,000 objects and resources. -/
namespace Go.Proofs.YtdakeicfhbggeaaGreat
namespace Evt
open Go Go.RowKit Sx Lab Vec Ojt
attribute [local irreducible] Go.Calls
end Evt
end Go.Proofs.YtdakeicfhbggeaaGreat
