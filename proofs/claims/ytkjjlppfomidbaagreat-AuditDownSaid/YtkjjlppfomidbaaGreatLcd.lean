/- What sums are: of a space, and a scope's number, a vector; Get, put, Move; conditions: none. -/
import Derived.Test.YtkjjlppfomidbaaGreatOmor
import Derived.Test.YtkjjlppfomidbaaGreatScpy
import Derived.Test.YtkjjlppfomidbaaGreatSxn
import Derived.Test.YtkjjlppfomidbaaGreatMkb
/- Lca: What sums are: of a space, and a scope's number, a vector; Get, put, Move; conditions: none. -/
namespace Go.Proofs.YtkjjlppfomidbaaGreat
namespace Lct
open Go Go.RowKit Sx Vec Ojt Scp
attribute [local irreducible] Go.Calls
abbrev Bk := List UInt8 × Int
abbrev Su := Bk × List Ent
def getS (L : List Su) (b : Bk) : List Ent := match L.find? fun e => decide (e.1 = b) with | some e => e.2 | none => []
def putS (L : List Su) (b : Bk) (v : List Ent) : List Su := (L.filter fun e => decide (e.1 ≠ b)) ++ [(b, v)]
def moveG (o : Ob) (c : List Ent) (less : Bool) : Nat → List (List Trm) → List Su → List Su × Int
  | _, [], out => (out, 0)
  | i, sc :: rest, out =>
    if matchS sc o.c o.tm o.bs = false then moveG o c less (i + 1) rest out
    else if (combV less (getS out (o.s, i)) c).2 ≠ 0 then (out, (combV less (getS out (o.s, i)) c).2)
    else moveG o c less (i + 1) rest (putS out (o.s, i) (combV less (getS out (o.s, i)) c).1)
def moveS (scs : List (List Trm)) (L : List Su) (o : Ob) (less : Bool) : List Su × Int :=
  if (chargeO o).2 ≠ 0 then (L, (chargeO o).2)
  else if (moveG o (chargeO o).1 less 0 scs L).2 ≠ 0 then (L, (moveG o (chargeO o).1 less 0 scs L).2)
  else ((moveG o (chargeO o).1 less 0 scs L).1, 0)
structure BndU (k : Nat) (L : List Su) : Prop where
  len : L.length ≤ 20 * k
  sp : ∀ e ∈ L, e.1.1.length ≤ 100000
  vs : ∀ e ∈ L, wfV e.2 ∧ e.2.length ≤ 17 * k
theorem BndU.nil : BndU 0 [] := ⟨Nat.le_refl _, (fun e h => by cases h), (fun e h => by cases h)⟩
theorem wfV_nil : wfV [] := ⟨by simp, fun e he => by cases he⟩
end Lct
end Go.Proofs.YtkjjlppfomidbaaGreat
/- Lcb: The document's answer for layer 13: Get, put; conditions: at most 100,000 sums. -/
namespace Go.Proofs.YtkjjlppfomidbaaGreat
namespace Lct
open Go Go.RowKit Sx Vec Ojt Scp
attribute [local irreducible] Go.Calls
theorem getP {α : Type} {l : List α} {i : Nat} (h : i < l.length) : ∃ a, l[i]? = some a := ⟨_, List.getElem?_eq_getElem h⟩
theorem bk_eq (a b : Bk) : eqAll [S a.1, I a.2] [S b.1, I b.2] = decide (a = b) := by
  obtain ⟨a1, a2⟩ := a
  obtain ⟨b1, b2⟩ := b
  rw [Bool.eq_iff_iff]
  simp [eqAll, eqB]
end Lct
end Go.Proofs.YtkjjlppfomidbaaGreat
/- Lcc: The document's answer for layer 13: Move; conditions: at most 1,000 moves. -/
namespace Go.Proofs.YtkjjlppfomidbaaGreat
namespace Lct
open Go Go.RowKit Sx Vec Ojt Scp
attribute [local irreducible] Go.Calls
theorem charge_wf {o : Ob} (h : wfO o) : wfV (chargeO o).1 ∧ (chargeO o).1.length ≤ 17 := by
  unfold chargeO
  split
  · obtain ⟨q1, q2⟩ := of_wf h.2.2.2.2
    obtain ⟨h1, h2⟩ := wf_comb (less := false) q1 w_one.1 (by omega) (show [((nObj, 1) : Ent)].length ≤ 20000 by decide)
    exact ⟨h1, Nat.le_trans h2 (by have : [((nObj, 1) : Ent)].length = 1 := rfl; omega)⟩
  · exact ⟨wfV_nil, Nat.zero_le _⟩
abbrev Sc := Value × List (Value × Trm)
def cellsSc (s : Sc) : List Value := [s.1]
theorem cellsSc_len (s : Sc) : (cellsSc s).length = 1 := rfl
def ScsAt (w : World) (v : Value) (ss : List Sc) : Prop := OldRow w 1 v ss.length (ss.flatMap cellsSc) ∧ ∀ s ∈ ss, ScpAt w s.1 s.2
theorem ScsAt.below {w w' : World} {v : Value} {ss : List Sc} (h : ScsAt w v ss) (hb : Below w.heap.size w w') : ScsAt w' v ss := ⟨OldRow.below h.1 hb, fun s hs => (h.2 s hs).below hb⟩
abbrev scT (ss : List Sc) : List (List Trm) := ss.map fun s => trms s.2
structure BndI (k i : Nat) (L : List Su) : Prop where
  len : L.length ≤ 20 * k + i
  sp : ∀ e ∈ L, e.1.1.length ≤ 100000
  vs : ∀ e ∈ L, wfV e.2 ∧ e.2.length ≤ 17 * (k + 1) ∧ ((i : Int) ≤ e.1.2 → e.2.length ≤ 17 * k)
theorem BndU.start {k : Nat} {L : List Su} (h : BndU k L) : BndI k 0 L := ⟨h.len, h.sp, fun e he => ⟨(h.vs e he).1, by have := (h.vs e he).2; omega, fun _ => (h.vs e he).2⟩⟩
theorem BndI.skip {k i : Nat} {L : List Su} (h : BndI k i L) : BndI k (i + 1) L := ⟨by have := h.len; omega, h.sp, fun e he => ⟨(h.vs e he).1, (h.vs e he).2.1, fun hi => (h.vs e he).2.2 (by omega)⟩⟩
theorem BndI.fin {k i : Nat} {L : List Su} (h : BndI k i L) (hi : i ≤ 20) : BndU (k + 1) L := ⟨by have := h.len; omega, h.sp, fun e he => ⟨(h.vs e he).1, (h.vs e he).2.1⟩⟩
theorem BndI.get {k i : Nat} {L : List Su} (h : BndI k i L) (s : List UInt8) : wfV (getS L (s, (i : Int))) ∧ (getS L (s, (i : Int))).length ≤ 17 * k := by
  unfold getS
  cases hf : L.find? fun e => decide (e.1 = (s, (i : Int))) with
  | none => exact ⟨wfV_nil, Nat.zero_le _⟩
  | some e =>
    have h1 := List.mem_of_find?_eq_some hf
    have h2 := List.find?_some hf
    rw [decide_eq_true_eq] at h2
    exact ⟨(h.vs e h1).1, (h.vs e h1).2.2 (by rw [h2]; exact Int.le_refl _)⟩
theorem BndI.put {k i : Nat} {L : List Su} (h : BndI k i L) {s : List UInt8} (hs : s.length ≤ 100000) {v : List Ent} (hv : wfV v) (hl : v.length ≤ 17 * (k + 1)) : BndI k (i + 1) (putS L (s, (i : Int)) v) := by
  refine ⟨?_, fun e he => ?_, fun e he => ?_⟩
  · unfold putS
    rw [List.length_append, List.length_singleton]
    have := List.length_filter_le (fun e : Su => decide (e.1 ≠ (s, (i : Int)))) L
    have := h.len
    omega
  · rcases List.mem_append.1 he with he | he
    · exact h.sp e (List.mem_filter.1 he).1
    · cases List.mem_singleton.1 he; exact hs
  · rcases List.mem_append.1 he with he | he
    · have h1 := h.vs e (List.mem_filter.1 he).1
      exact ⟨h1.1, h1.2.1, fun hi => h1.2.2 (by omega)⟩
    · cases List.mem_singleton.1 he
      exact ⟨hv, hl, fun hi => absurd hi (by simp only; omega)⟩
end Lct
end Go.Proofs.YtkjjlppfomidbaaGreat
/- Lcd: The document's answer for layer 13: Spaces, Right; conditions: at most 100,000 sums. -/
namespace Go.Proofs.YtkjjlppfomidbaaGreat
namespace Lct
open Go Go.RowKit Sx Vec Ojt Scp
attribute [local irreducible] Go.Calls
def rightScs (scs : List (List Trm)) : Bool := scs.all rightS && decide (scs.length ≤ 8)
end Lct
end Go.Proofs.YtkjjlppfomidbaaGreat
