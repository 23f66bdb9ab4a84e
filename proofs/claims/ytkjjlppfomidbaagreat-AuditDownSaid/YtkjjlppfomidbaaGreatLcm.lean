/- The document's answer for layer 13: Load; conditions: at most 900 objects. -/
import Derived.Test.YtkjjlppfomidbaaGreatLcd
import Derived.Test.YtkjjlppfomidbaaGreatEvs
import Derived.Test.YtkjjlppfomidbaaGreatChd
/- Lce: The document's answer for layer 13: Load; conditions: at most 900 objects. -/
namespace Go.Proofs.YtkjjlppfomidbaaGreat
namespace Lct
open Go Go.RowKit Sx Vec Ojt Scp
attribute [local irreducible] Go.Calls
def loadG (scs : List (List Trm)) : List Ob → List Su → List Su × Int
  | [], out => (out, 0)
  | o :: os, out => if (moveS scs out o false).2 ≠ 0 then ([], (moveS scs out o false).2) else loadG scs os (moveS scs out o false).1
def loadS (scs : List (List Trm)) (os : List Ob) : List Su × Int := if os.all rightO = true then loadG scs os [] else ([], 1)
theorem moveG_bnd {o : Ob} {c : List Ent} {less : Bool} (hs : o.s.length ≤ 100000) (hc : wfV c) (hc17 : c.length ≤ 17) : ∀ (scs : List (List Trm)) (k i : Nat) (L : List Su), k ≤ 1000 → i + scs.length ≤ 20 → BndI k i L → BndI k (i + scs.length) (moveG o c less i scs L).1
  | [], k, i, L, _, _, h => h
  | sc :: rest, k, i, L, hk, hi, h => by
    rw [List.length_cons] at hi ⊢
    unfold moveG
    have e : i + (rest.length + 1) = (i + 1) + rest.length := by omega
    have up : ∀ {j m : Nat} {M : List Su}, BndI k j M → BndI k (j + m) M := fun {j m M} hM => by
      induction m with
      | zero => exact hM
      | succ m ih => exact ih.skip
    split
    · rw [e]; exact moveG_bnd hs hc hc17 rest k (i + 1) L hk (by omega) h.skip
    · split
      · exact up h
      · rw [e]
        have w5 := h.get o.s
        obtain ⟨xw, xl⟩ := wf_comb (less := less) w5.1 hc (by omega) (by omega)
        exact moveG_bnd hs hc hc17 rest k (i + 1) _ hk (by omega) (h.put hs xw (by omega))
theorem moveS_bnd {scs : List (List Trm)} {L : List Su} {o : Ob} {less : Bool} {k : Nat} (ho : wfO o) (hk : k ≤ 1000) (hs : scs.length ≤ 20) (h : BndU k L) : BndU (k + 1) (moveS scs L o less).1 := by
  have hid : BndU (k + 1) L := ⟨by have := h.len; omega, h.sp, fun e he => ⟨(h.vs e he).1, by have := (h.vs e he).2; omega⟩⟩
  obtain ⟨cw, cl⟩ := charge_wf ho
  unfold moveS
  split
  · exact hid
  · split
    · exact hid
    · exact (moveG_bnd ho.2.1 cw cl scs k 0 L hk (by omega) h.start).fin (by omega)
end Lct
end Go.Proofs.YtkjjlppfomidbaaGreat
/- Lcf: The document's answer for layer 13: Apply; conditions: at most 400 deltas. -/
namespace Go.Proofs.YtkjjlppfomidbaaGreat
namespace Lct
open Go Go.RowKit Sx Vec Ojt Scp
attribute [local irreducible] Go.Calls
abbrev keyB3 (o : Ob) : Chm.Kt := (o.k, o.s, o.n)
def okP (d : Chm.PD) : Bool := !((d.had && (!(rightO d.old.2) || !(decide (keyB3 d.old.2 = d.key)))) || (d.has && (!(rightO d.new.2) || !(decide (keyB3 d.new.2 = d.key)))))
def stepP (scs : List (List Trm)) (L : List Su) (d : Chm.PD) : List Su × Int :=
  let a := if d.had = true then moveS scs L d.old.2 true else (L, 0)
  if a.2 ≠ 0 then (L, a.2) else if d.has = true then moveS scs a.1 d.new.2 false else (a.1, 0)
def applyG (scs : List (List Trm)) : List Chm.PD → List Su → List Su × Int
  | [], out => (out, 0)
  | d :: ds, out => if (stepP scs out d).2 ≠ 0 then (out, (stepP scs out d).2) else applyG scs ds (stepP scs out d).1
def diffS (L : List Su) (out : List Su) : List (List UInt8) := out.foldl (fun acc e => if e.2 ≠ getS L e.1 then Mkt.markL acc e.1.1 else acc) []
def applyS (scs : List (List Trm)) (L : List Su) (ds : List Chm.PD) : List Su × List (List UInt8) × Int :=
  if ds.all okP = true then (if (applyG scs ds L).2 ≠ 0 then (L, [], (applyG scs ds L).2) else ((applyG scs ds L).1, diffS L (applyG scs ds L).1, 0)) else (L, [], 1)
def DelAt (w : World) (v : Value) (ds : List Chm.PD) : Prop := OldRow w 21 v ds.length (ds.flatMap Chm.cellsD) ∧ ∀ d ∈ ds, ResAt w d.old.1 d.old.2.rs ∧ ResAt w d.new.1 d.new.2.rs
end Lct
end Go.Proofs.YtkjjlppfomidbaaGreat
/- Lcm: How much there is of sums, all the way; conditions: none. -/
namespace Go.Proofs.YtkjjlppfomidbaaGreat
namespace Lct
open Go Go.RowKit Sx Vec Ojt Scp
structure Small (L : List Su) : Prop where
  len : L.length ≤ 40000
  sp : ∀ e ∈ L, e.1.1.length ≤ 100000
  vs : ∀ e ∈ L, wfV e.2 ∧ e.2.length ≤ 17000
def SmallA (scs : List (List Trm)) : List Chm.PD → List Su → Prop
  | [], L => Small L
  | d :: ds, L => Small L ∧ (d.had = true → Small (moveS scs L d.old.2 true).1) ∧ Small (stepP scs L d).1 ∧ SmallA scs ds (stepP scs L d).1
def SmallL (scs : List (List Trm)) : List Ob → List Su → Prop
  | [], L => Small L
  | o :: os, L => Small L ∧ SmallL scs os (moveS scs L o false).1
theorem BndU.small {k : Nat} {L : List Su} (h : BndU k L) (hk : k ≤ 1000) : Small L := ⟨by have := h.len; omega, h.sp, fun e he => ⟨(h.vs e he).1, by have := (h.vs e he).2; omega⟩⟩
theorem BndU.up {k m : Nat} {L : List Su} (h : BndU k L) (hk : k ≤ m) : BndU m L := ⟨by have := h.len; omega, h.sp, fun e he => ⟨(h.vs e he).1, by have := (h.vs e he).2; omega⟩⟩
theorem smallL_of {scs : List (List Trm)} (hs : scs.length ≤ 20) : ∀ (os : List Ob) {k : Nat} {L : List Su}, (∀ o ∈ os, wfO o) → BndU k L → k + os.length ≤ 1000 → SmallL scs os L
  | [], k, L, _, h, hk => h.small (by simp at hk; omega)
  | o :: os, k, L, hw, h, hk => by
    rw [List.length_cons] at hk
    exact ⟨h.small (by omega), smallL_of hs os (fun x hx => hw x (List.mem_cons_of_mem _ hx)) (moveS_bnd (hw o List.mem_cons_self) (by omega) hs h) (by omega)⟩
theorem loadG_bnd {scs : List (List Trm)} (hs : scs.length ≤ 20) : ∀ (os : List Ob) {k : Nat} {L : List Su}, (∀ o ∈ os, wfO o) → BndU k L → k + os.length ≤ 1000 → BndU (k + os.length) (loadG scs os L).1
  | [], k, L, _, h, hk => h
  | o :: os, k, L, hw, h, hk => by
    rw [List.length_cons] at hk ⊢
    have h2 := moveS_bnd (scs := scs) (less := false) (hw o List.mem_cons_self) (by omega : k ≤ 1000) hs h
    unfold loadG
    split
    · exact BndU.nil.up (Nat.zero_le _)
    · exact (loadG_bnd hs os (fun x hx => hw x (List.mem_cons_of_mem _ hx)) h2 (by omega)).up (by omega)
theorem loadS_bnd {scs : List (List Trm)} (hs : scs.length ≤ 20) {os : List Ob} (hw : ∀ o ∈ os, wfO o) (hk : os.length ≤ 1000) : BndU os.length (loadS scs os).1 := by
  unfold loadS
  split
  · exact (loadG_bnd hs os hw BndU.nil (by omega)).up (by omega)
  · exact BndU.nil.up (Nat.zero_le _)
end Lct
end Go.Proofs.YtkjjlppfomidbaaGreat
