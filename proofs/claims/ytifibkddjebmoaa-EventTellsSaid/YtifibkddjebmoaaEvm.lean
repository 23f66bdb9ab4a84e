/- Lists of objects, and events: what they are, which may be; conditions: none. -/
import Derived.Test.YtifibkddjebmoaaOobj
import Derived.Test.YtifibkddjebmoaaSxk
namespace Go.Proofs.Ytifibkddjebmoaa
namespace Evt
open Go Go.RowKit Sx Lab Vec Ojt

/-- An object, and where its charge lies. -/
abbrev PO := Value × Ob
def cellsO (p : PO) : List Value := [S p.2.k, S p.2.s, S p.2.n, I p.2.ver, S p.2.c, .bool p.2.tm, .bool p.2.bs, p.1]
theorem cellsO_len (p : PO) : (cellsO p).length = 8 := rfl
abbrev obs (ps : List PO) : List Ob := ps.map (·.2)
/-- Objects that came in. -/
def ObjsAt (w : World) (v : Value) (ps : List PO) : Prop := OldRow w 8 v ps.length (ps.flatMap cellsO) ∧ ∀ p ∈ ps, ResAt w p.1 p.2.rs
theorem ObjsAt.below {w w' : World} {v : Value} {ps : List PO} (h : ObjsAt w v ps) (hb : Below w.heap.size w w') : ObjsAt w' v ps := ⟨OldRow.below h.1 hb, fun p hp => (h.2 p hp).below hb⟩
/-- Short names. -/
def wfS (o : Ob) : Prop := o.k.length ≤ 1000 ∧ o.s.length ≤ 1000 ∧ o.n.length ≤ 1000 ∧ o.c.length ≤ 1000 ∧ wfR o.rs
theorem wfS.wfO {o : Ob} (h : wfS o) : wfO o := ⟨by have := h.1; omega, by have := h.2.1; omega, by have := h.2.2.1; omega, by have := h.2.2.2.1; omega, h.2.2.2.2⟩
def wfL (ps : List PO) : Prop := ps.length ≤ 100000 ∧ ∀ p ∈ ps, wfS p.2
/-- Is a key ahead of another one? -/
def lessO (a b : Ob) : Bool := Op.bytesLess (joinB a.k a.s a.n) (joinB b.k b.s b.n)
theorem same_eq (a b : Ob) : sameO a b = decide (a = b) := by
  obtain ⟨k, s, n, ver, c, tm, bs, rs⟩ := a
  obtain ⟨k2, s2, n2, ver2, c2, tm2, bs2, rs2⟩ := b
  rw [Bool.eq_iff_iff]
  simp only [sameO, alikeO, Bool.and_eq_true, decide_eq_true_eq, beq_iff_eq, Ob.mk.injEq]
  constructor
  · rintro ⟨⟨h1, h2, h3, h4, h5, h6, h7⟩, h8⟩; exact ⟨h1, h2, h3, h8, h4, h5, h6, h7⟩
  · rintro ⟨h1, h2, h3, h8, h4, h5, h6, h7⟩; exact ⟨⟨h1, h2, h3, h4, h5, h6, h7⟩, h8⟩
theorem getP {α : Type} {l : List α} {i : Nat} (h : i < l.length) : ∃ a, l[i]? = some a := ⟨_, List.getElem?_eq_getElem h⟩

def relAt (os : List Ob) (ver : Int) (i : Nat) : Bool :=
  match os[i]? with
  | none => true
  | some o => rightO o && decide (o.ver ≤ ver) && (match i with
    | 0 => true
    | j + 1 => match os[j]? with
      | none => true
      | some q => lessO q o)
def relB (os : List Ob) (ver : Int) : Bool := (List.range os.length).all (relAt os ver)
theorem rel_f {os : List Ob} {ver : Int} {i : Nat} (hi : i < os.length) (h : relAt os ver i = false) : relB os ver = false := List.all_eq_false.2 ⟨i, List.mem_range.2 hi, by rw [h]; decide⟩
theorem rel_t {os : List Ob} {ver : Int} (h : ∀ j, j < os.length → relAt os ver j = true) : relB os ver = true := List.all_eq_true.2 fun j hj => h j (List.mem_range.1 hj)
theorem ob_at {ps : List PO} {i : Nat} {p : PO} (h : ps[i]? = some p) : (obs ps)[i]? = some p.2 := by rw [List.getElem?_map, h]; rfl
theorem obs_len (ps : List PO) : (obs ps).length = ps.length := List.length_map _
/-- An event's value: its kind, its object and that one's charge, its version, its objects. -/
abbrev EV (kind : Int) (p : PO) (ver : Int) (v : Value) : Value := .agg #[I kind, S p.2.k, S p.2.s, S p.2.n, I p.2.ver, S p.2.c, .bool p.2.tm, .bool p.2.bs, p.1, I ver, v]
/-- May an event be? -/
def rightE (kind : Int) (o : Ob) (ver : Int) (os : List Ob) : Bool :=
  if kind = 0 then rightO o else if kind = 1 then keyB o.k o.s o.n && decide (1 ≤ o.ver) else if kind = 3 then decide (0 ≤ ver)
  else if kind = 2 then relB os ver && (decide (0 ≤ ver) && decide (os.length ≤ 1000)) else false
def versE (kind : Int) (o : Ob) (ver : Int) (os : List Ob) : Int × Int := if rightE kind o ver os = true then (if kind = 0 ∨ kind = 1 then o.ver else ver, 0) else (0, 1)

/-- One more, ahead of the first that it is ahead of. -/
def insP (x : PO) : List PO → List PO
  | [] => [x]
  | y :: r => if lessO x.2 y.2 = true then x :: y :: r else y :: insP x r
def sortP (ps : List PO) : List PO := ps.foldl (fun out x => insP x out) []
end Evt
end Go.Proofs.Ytifibkddjebmoaa
