/- What the document's answer for layer 8 does with lists: deltas; conditions: names of at most 1,000 bytes, at most 1,000 objects. -/
import Derived.Test.YtdakeicfhbggeaaGreatChw
import Derived.Test.YtdakeicfhbggeaaGreatCsx
namespace Go.Proofs.YtdakeicfhbggeaaGreat
namespace Chm
open Go Go.RowKit Sx Lab Vec Ojt Evt
attribute [local irreducible] Go.Calls
structure PD where
  key : Kt
  had : Bool
  has : Bool
  old : PO
  new : PO
def cellsD (d : PD) : List Value := [S d.key.1, S d.key.2.1, S d.key.2.2, .bool d.had, .bool d.has, S d.old.2.k, S d.old.2.s, S d.old.2.n, I d.old.2.ver, S d.old.2.c, .bool d.old.2.tm, .bool d.old.2.bs, d.old.1,
  S d.new.2.k, S d.new.2.s, S d.new.2.n, I d.new.2.ver, S d.new.2.c, .bool d.new.2.tm, .bool d.new.2.bs, d.new.1]
theorem cellsD_len (d : PD) : (cellsD d).length = 21 := rfl
def deD (d : PD) : De := ⟨d.key, d.had, d.has, d.old.2, d.new.2⟩
abbrev zP : PO := (.slice none 0 0, zO)
def goneP (x : PO) : PD := ⟨keyO x.2, true, false, x, zP⟩
def cameP (y : PO) : PD := ⟨keyO y.2, false, true, zP, y⟩
def turnP (x y : PO) : PD := ⟨keyO x.2, true, true, x, y⟩
def dlP : List PO → List PO → List PD
  | [], [] => []
  | x :: a, [] => goneP x :: dlP a []
  | [], y :: b => cameP y :: dlP [] b
  | x :: a, y :: b => if lessO x.2 y.2 = true then goneP x :: dlP a (y :: b) else if lessO y.2 x.2 = true then cameP y :: dlP (x :: a) b else if x.2 = y.2 then dlP a b else turnP x y :: dlP a b
  termination_by a b => a.length + b.length
theorem dlP_is : ∀ (a b : List PO), (dlP a b).map deD = dlO (obs a) (obs b)
  | [], [] => by rw [dlP]; show [] = dlO [] []; rw [dlO]
  | x :: a, [] => by rw [dlP, List.map_cons, dlP_is a []]; show _ = dlO (x.2 :: obs a) []; rw [dlO]; rfl
  | [], y :: b => by rw [dlP, List.map_cons, dlP_is [] b]; show _ = dlO [] (y.2 :: obs b); rw [dlO]; rfl
  | x :: a, y :: b => by
    rw [dlP]
    show _ = dlO (x.2 :: obs a) (y.2 :: obs b)
    rw [dlO]
    by_cases h1 : lessO x.2 y.2 = true
    · rw [if_pos h1, if_pos h1, List.map_cons, dlP_is a (y :: b)]; rfl
    · rw [if_neg h1, if_neg h1]
      by_cases h2 : lessO y.2 x.2 = true
      · rw [if_pos h2, if_pos h2, List.map_cons, dlP_is (x :: a) b]; rfl
      · rw [if_neg h2, if_neg h2]
        by_cases h3 : x.2 = y.2
        · rw [if_pos h3, if_pos h3, dlP_is a b]
        · rw [if_neg h3, if_neg h3, List.map_cons, dlP_is a b]; rfl
  termination_by a b => a.length + b.length
end Chm
end Go.Proofs.YtdakeicfhbggeaaGreat
