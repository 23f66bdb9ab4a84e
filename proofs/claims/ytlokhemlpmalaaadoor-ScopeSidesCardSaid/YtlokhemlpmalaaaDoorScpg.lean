/- What the landed code of layer 6 reads beside its arguments: the table of the ops' words; strings.Join at a separator of one byte; conditions: none. -/
import Derived.Test.YtlokhemlpmalaaaDoorScpt
import Derived.Test.YtlokhemlpmalaaaDoorSxg
import Derived.Test.YtlokhemlpmalaaaDoorShelf
namespace Go.Proofs.YtlokhemlpmalaaaDoor
namespace Scp
open Go Go.RowKit Sx Lab
attribute [local irreducible] Go.Calls

/-- The words. -/
def wordsV : List Value := [S (opN 0), S (opN 1), S (opN 2), S (opN 3), S (opN 4), S (opN 5), S (opN 6), S (opN 7)]
/-- What the landed code reads beside its arguments. -/
def Glo (w : World) : Prop := Glob w 0 wordsV
theorem Glo.below {w w' : World} (h : Glo w) (hb : Below w.heap.size w w') : Glo w' := Glob.below h hb
theorem words_at {op : Int} (h : 0 ≤ op ∧ op ≤ 7) : wordsV[0 + op.toNat * 1]? = some (S (opN op)) := by
  obtain rfl | rfl | rfl | rfl | rfl | rfl | rfl | rfl : op = 0 ∨ op = 1 ∨ op = 2 ∨ op = 3 ∨ op = 4 ∨ op = 5 ∨ op = 6 ∨ op = 7 := by omega
  all_goals rfl
/-- A list with room for no less than it has. -/
def CapV (v : Value) : Prop := ∀ a k c, v = .slice a k c → k ≤ c
def CapP (ps : List (Value × Trm)) : Prop := ∀ p ∈ ps, CapV p.1
theorem join_lib (c : UInt8) : ∀ (xs : List Nm), Lib.join xs [c] = joinC c xs
  | [] => rfl
  | [x] => by rw [Lib.join_one]; rfl
  | x :: y :: r => by
    have ih := join_lib c (y :: r)
    rw [Lib.join_cons] at *
    rw [joinC, ← ih]
    simp [Lib.joinTail]
theorem join_ok (a : Option Addr) (cap : Nat) (c : UInt8) (vs : List Nm) (w : World) (hv : TxtAt w (.slice a vs.length cap) vs) (hc : vs.length ≤ cap) (h1 : 1 ≤ vs.length) (hl : vs.length ≤ 100000) (hlen : (joinC c vs).length ≤ 100000000) :
    Calls Tryd.prog 24 #[.slice a vs.length cap, S [c]] w fun e w' => e = .returned (S (joinC c vs)) ∧ Below w.heap.size w w' := by
  have hm : (vs.map fun e => (⟨e.toArray⟩ : ByteArray)).map (·.data.toList) = vs := by rw [List.map_map]; exact (List.map_congr_left fun _ _ => rfl).trans (List.map_id vs)
  have hj : Lib.join ((vs.map fun e => (⟨e.toArray⟩ : ByteArray)).map (·.data.toList)) ((⟨#[c]⟩ : ByteArray).data.toList) = joinC c vs := by rw [hm]; exact join_lib c vs
  obtain ⟨a', c', e1, hat⟩ := OldRow.cells cellsS_len hv
  cases e1
  obtain ⟨v0, h0⟩ := getI (show 0 < vs.length by omega)
  obtain ⟨g, o, rfl, hg, -⟩ := hat 0 v0 0 h0 rfl
  have h := Tryd.strings_Join g o cap (vs.map fun e => (⟨e.toArray⟩ : ByteArray)) ⟨#[c]⟩ w (fun j x hx => by
    rw [List.getElem?_map] at hx
    obtain ⟨e, he, rfl⟩ := Option.map_eq_some_iff.1 hx
    obtain ⟨g', o', e2, -, hd⟩ := hat j e (j : Int) he rfl
    cases e2
    have := hd 0 _ rfl
    simpa using this) hg (by rw [List.length_map]; omega) (by rw [List.length_map]; exact hc) (by rw [hj]; omega)
  rw [hj, List.length_map] at h
  exact h
end Scp
end Go.Proofs.YtlokhemlpmalaaaDoor
